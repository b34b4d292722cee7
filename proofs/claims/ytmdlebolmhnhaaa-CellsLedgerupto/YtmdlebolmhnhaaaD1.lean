import Derived.Test.YtmdlebolmhnhaaaB5
namespace Go.Proofs.Ytmdlebolmhnhaaa
open Go.RowKit (wrap32 wrap64)
open Go.Maps (Keyed)
set_option linter.unusedVariables false
set_option linter.unusedSimpArgs false

/-! ### Pop as a function -/
def cutGo (num : Nat) (l : List Nat) : Nat → Nat
  | 0 => 0
  | k + 1 => if num < l.getD k 0 then cutGo num l k else k + 1
def cutLen (num : Nat) (l : List Nat) : Nat := cutGo num l l.length

theorem cutGo_is (num : Nat) (l : List Nat) : ∀ k, k ≤ l.length → (∀ j p, k ≤ j → l[j]? = some p → num < p) → IsCut num l (cutGo num l k)
  | 0, h, hj => ⟨Nat.zero_le _, hj, fun p h => by simp [cutGo] at h⟩
  | k + 1, h, hj => by
    unfold cutGo
    have e : l[k]? = some (l.getD k 0) := by rw [List.getElem?_eq_getElem (by omega), List.getD_eq_getElem?_getD, List.getElem?_eq_getElem (by omega)]; rfl
    split
    · rename_i hlt
      refine cutGo_is num l k (by omega) (fun j p hkj hp => ?_)
      by_cases hjk : j = k
      · subst hjk
        rw [e] at hp
        cases hp
        exact hlt
      · exact hj j p (by omega) hp
    · rename_i hlt
      refine ⟨h, hj, fun p _ hp => ?_⟩
      rw [Nat.add_sub_cancel, e] at hp
      cases hp
      omega
theorem cutLen_is (num : Nat) (l : List Nat) : IsCut num l (cutLen num l) := cutGo_is num l l.length (Nat.le_refl _) (fun j p hj hp => by rw [List.getElem?_eq_none hj] at hp; cases hp)

def popX (a : Abs) : Abs × Int :=
  match a.frs.getLast? with
  | none => (a, 30)
  | some num => ({ a with cells := gone a.cells (a.pss.drop (cutLen num a.pss)), pss := a.pss.take (cutLen num a.pss), frs := a.frs.dropLast }, 0)

theorem PopX.eq {a a' : Abs} (h : PopX a a') : popX a = (a', 0) := by
  obtain ⟨num, k, e, hc, rfl⟩ := h
  have hl : a.frs.getLast? = some num := by rw [e]; simp
  unfold popX
  rw [hl, IsCut.unique hc (cutLen_is num a.pss)]

/-- So many of each at most. -/
structure Fine (N : Nat) (a : Abs) : Prop where
  made : a.made ≤ N
  frs : a.frs.length ≤ N
  pss : a.pss.length ≤ N
  pbd : ∀ p ∈ a.pss, p ≤ N

theorem pop_x (b : Nat) (g : Gh) (a : Abs) (w : World) (h : Mem w b g a) {N : Nat} (hf : Fine N a) (hN : N ≤ 10000000000000) :
    Calls Try.prog 18 #[ptr b] w fun e w' => ∃ g', e = .returned (vI (popX a).2) ∧ Mem w' b g' (popX a).1 ∧ Fr (fun j => g.own j ≠ 0) w w' ∧ Ext w.heap.size g g' := by
  by_cases h0 : a.frs = []
  · refine (pop_none b g a w h h0).mono ?_
    rintro e w' ⟨rfl, rfl⟩
    have : popX a = (a, 30) := by simp [popX, h0]
    rw [this]
    exact ⟨g, rfl, h, Fr.refl _ _, Ext.refl _ _⟩
  · refine (pop_any b g a w h h0 (by have := hf.frs; omega) (by have := hf.pss; omega) (fun p hp => by have := hf.pbd p hp; omega)).mono ?_
    rintro e w' ⟨rfl, g', a', hP, hM, hF, hE⟩
    rw [hP.eq]
    exact ⟨g', rfl, hM, hF, fun k _ => by rw [hE]⟩

theorem make_x (b : Nat) (g : Gh) (a : Abs) (n : Int) (heap : Bool) (w : World) (h : Mem w b g a) {N : Nat} (hf : Fine N a) (hN : N ≤ 10000000000000) :
    Calls Try.prog 12 #[ptr b, vI n, .bool heap] w fun e w' => ∃ g', e = .returned (.tuple #[vI (makeX a n heap).2.1, vI (makeX a n heap).2.2]) ∧ Mem w' b g' (makeX a n heap).1 ∧ Fr (fun j => g.own j ≠ 0) w w' ∧ Ext w.heap.size g g' := by
  by_cases hbad : (n < 1 ∨ 8 < n) ∨ a.frs = []
  · refine (make_bad b g a n heap w h hbad).mono ?_
    rintro e w' ⟨rfl, h1, h2, rfl⟩
    exact ⟨g, by rw [h2], by rw [h1]; exact h, Fr.refl _ _, Ext.refl _ _⟩
  · obtain ⟨m, rfl⟩ := Int.eq_ofNat_of_zero_le (show 0 ≤ n by omega)
    have h1 : 1 ≤ m := by omega
    have h8 : m ≤ 8 := by omega
    have hfr : a.frs ≠ [] := fun e => hbad (Or.inr e)
    have hX : makeX a (m : Int) heap = (if heap then mkA a m else { mkA a m with pss := a.pss ++ [a.made + 1] }, ((a.made + 1 : Nat) : Int), 0) := by
      unfold makeX
      rw [if_neg (by omega), if_neg hfr, Int.toNat_natCast]
    rw [hX]
    have e1 := hf.made
    have e2 := hf.frs
    have e3 := hf.pss
    cases heap with
    | true => exact make_heap b g a m w h h1 h8 hfr (by omega) (by omega)
    | false => exact make_frame b g a m w h h1 h8 hfr (by omega) (by omega) (by omega)

/-! ### one call -/
structure OpR where
  kind : Int
  on : Int
  n : Int
  heap : Bool
  v : Val
  w : Val
  ca : Option Addr
  cl : Nat
  cc : Nat

abbrev OpR.cells (o : OpR) : Value := .slice o.ca o.cl o.cc

abbrev opC (o : OpR) : Array Value := #[vI o.kind, vI o.on, vI o.n, .bool o.heap, vI o.v.1, vI o.v.2, vI o.w.1, vI o.w.2, o.cells]
abbrev opV (o : OpR) : Value := .agg (opC o)

/-- What one call does, and what it answers: a number, a value, an error (Live and Drop aside). -/
def oneX (a : Abs) (o : OpR) : Abs × Int × Val × Int :=
  if o.kind = 2 then (pushX a, 0, (0, 0), 0)
  else if o.kind = 3 then ((popX a).1, 0, (0, 0), (popX a).2)
  else if o.kind = 4 then ((makeX a o.n o.heap).1, (makeX a o.n o.heap).2.1, (0, 0), (makeX a o.n o.heap).2.2)
  else if o.kind = 5 then (a, 0, (loadX a o.v o.n).1, (loadX a o.v o.n).2)
  else if o.kind = 6 then ((storeX a o.v o.n o.w).1, 0, (0, 0), (storeX a o.v o.n o.w).2)
  else if o.kind = 7 then (a, 0, (globalX a o.n).1, (globalX a o.n).2)
  else if o.kind = 8 then ((setGlobalX a o.n o.v).1, 0, (0, 0), (setGlobalX a o.n o.v).2)
  else (a, 0, (0, 0), 0)

def OneEnds (b : Nat) (g : Gh) (r : Abs × Int × Val × Int) (w : World) (e : Ending) (w' : World) : Prop :=
  ∃ g', e = .returned (.tuple #[vI r.2.1, vv r.2.2.1, .slice none 0 0, vI r.2.2.2]) ∧ Mem w' b g' r.1 ∧ Fr (fun j => g.own j ≠ 0) w w' ∧ Ext w.heap.size g g'

/-- The result's two cells are written: the memory stays. -/
theorem Mem.result {w : World} {b : Nat} {g : Gh} {a : Abs} (h : Mem w b g a) {rb : Nat} (h0 : g.own rb = 0) (y : Val) : Mem (set2 w rb 0 y) b g a ∧ Fr (fun j => j = rb) w (set2 w rb 0 y) :=
  ⟨h.fr (set2_fr w rb 0 y) (fun k hk e => hk (by rw [e]; exact h0)), set2_fr w rb 0 y⟩

end Go.Proofs.Ytmdlebolmhnhaaa
