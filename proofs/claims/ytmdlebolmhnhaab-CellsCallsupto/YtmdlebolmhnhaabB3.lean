import Derived.Test.YtmdlebolmhnhaabB2
namespace Go.Proofs.Ytmdlebolmhnhaab
open Go.RowKit (wrap32 wrap64)
open Go.Maps (Keyed)
set_option linter.unusedVariables false
set_option linter.unusedSimpArgs false

/-- Cells that are gone. -/
def gone (c : Nat → Option (List Val)) (l : List Nat) : Nat → Option (List Val) := fun i => if i ∈ l then none else c i

/-- One cell is deleted from the map. -/
theorem Mem.del {w w2 : World} {b : Nat} {g : Gh} {a : Abs} (h : Mem w b g a) (i : Nat)
    (hown : w2.ownsMap Try.prog 3 Rc g.tb a.made (g.D.del (.int .i64 (i : Int)))) (hturn : w.mapTurned w2 g.tb) :
    Mem w2 b { g with D := g.D.del (.int .i64 (i : Int)) } { a with cells := upd a.cells i none } ∧ Fr (fun j => g.own j ≠ 0) w w2 := by
  have f2 : Fr (fun k => some g.tb = some k) w w2 := grown_fr hturn.grown
  have keep : ∀ k p, k < w.heap.size → g.own k = p → p ≠ 3 → w2.heap[k]? = w.heap[k]? := by
    intro k p hk hp p3
    rw [f2.block k hk (fun e => ne_own h.ot hp (Ne.symm p3) (Option.some.inj e))]
  have row : ∀ {v : Value} {xs : List Value} {m p : Nat}, w.ownsRow 0 3 1 v m xs → (∀ j, v.ownBlock = some j → g.own j = p) → p ≠ 3 → w2.ownsRow 0 3 1 v m xs := by
    intro v xs m p hr ho p3
    refine ⟨hr.1, ?_⟩
    rcases hr.2 with h2 | ⟨k, cap', cur, e, h3, h4, h5⟩
    · exact Or.inl h2
    · exact Or.inr ⟨k, cap', cur, e, h3, (keep k p (heap_lt h4) (ho k (by rw [e]; rfl)) p3).trans h4, h5⟩
  have HPOS : ∀ x : Int, Maps.has (g.D.del (.int .i64 (i : Int))) (.int .i64 x) = true → 0 ≤ x := by
    intro x hx
    by_cases e : x = (i : Int)
    · omega
    · rw [Maps.has_del_other (show (Lit.int .i64 x) ≠ .int .i64 (i : Int) from fun h => e (by injection h))] at hx
      exact h.pos x hx
  refine ⟨{ blk0 := (keep b 1 h.lt h.ob (by omega)).trans h.blk0, glob := (keep g.gb 2 (heap_lt h.glob) h.og (by omega)).trans h.glob, map := hown, has := ?_, atk := ?_, cell := ?_, frs := row h.frs h.ofr (by omega), pss := row h.pss h.ops (by omega), ob := h.ob, og := h.og, ot := h.ot, ofr := h.ofr, ops := h.ops, olt := (fun k hk => Nat.lt_of_lt_of_le (h.olt k hk) f2.size), glen := h.glen, pos := HPOS }, f2.mono (fun k _ e => by cases e; rw [h.ot]; omega)⟩
  · intro j
    simp only [upd]
    by_cases hi : j = i
    · subst hi
      rw [if_pos rfl]
      exact Maps.has_del_same
    · rw [if_neg hi, Maps.has_del_other (lit_ne hi), h.has j]
  · intro j l hc
    simp only [upd] at hc
    by_cases hi : j = i
    · rw [if_pos hi] at hc; cases hc
    · rw [if_neg hi] at hc
      simp only
      rw [Maps.atKey_del_other (lit_ne hi)]
      exact h.atk j l hc
  · intro j l hc
    simp only [upd] at hc
    by_cases hi : j = i
    · rw [if_pos hi] at hc; cases hc
    · rw [if_neg hi] at hc
      obtain ⟨d1, d2, d3⟩ := h.cell j l hc
      exact ⟨(keep _ _ (heap_lt d1) d2 (by omega)).trans d1, d2, d3⟩

/-- The list of what passes is cut. -/
theorem Mem.cutPs {w : World} {b : Nat} {g : Gh} {a : Abs} (h : Mem w b g a) {ad : Option Addr} {n cap k : Nat} (hv : g.ps = .slice ad n cap) (hk : k ≤ a.pss.length) :
    Mem (w.setCell ⟨b, 4, none⟩ (.slice ad k cap)) b { g with ps := .slice ad k cap } { a with pss := a.pss.take k } ∧ Fr (fun j => g.own j ≠ 0) w (w.setCell ⟨b, 4, none⟩ (.slice ad k cap)) := by
  have f : Fr (fun j => j = b) w (w.setCell ⟨b, 4, none⟩ (.slice ad k cap)) := Fr.setCell (S := fun j => j = b) (Fr.refl _ w) _ _ (Or.inl rfl)
  have keep : ∀ k' p, k' < w.heap.size → g.own k' = p → p ≠ 1 → (w.setCell ⟨b, 4, none⟩ (.slice ad k cap)).heap[k']? = w.heap[k']? := by
    intro k' p hk hp p1
    exact f.block k' hk (ne_own hp h.ob p1)
  have hlen : (a.pss.take k).length = k := by rw [List.length_take]; omega
  have HP : (w.setCell ⟨b, 4, none⟩ (.slice ad k cap)).ownsRow 0 3 1 (.slice ad k cap) (a.pss.take k).length ((a.pss.take k).map fun n : Nat => vI n) := by
    have hr := h.pss
    refine ⟨by simp, ?_⟩
    rw [hlen]
    rcases hr.2 with ⟨h2, h3⟩ | ⟨g7, cap', cur, e, h3, h4, h5, h6, h7, h8⟩
    · rw [hv] at h2
      cases h2
      have : k = 0 := by omega
      subst this
      exact Or.inl ⟨rfl, rfl⟩
    · rw [hv] at e
      cases e
      have ho : g.own g7 = 5 := h.ops g7 (by rw [hv]; rfl)
      refine Or.inr ⟨g7, cap, cur, rfl, h3, (keep g7 5 (heap_lt h4) ho (by omega)).trans h4, by omega, h6, h7, ?_⟩
      rw [List.map_take, ← h8]
      rw [List.take_take]
      congr 1
      omega
  refine ⟨{ blk0 := ?_, glob := (keep g.gb 2 (heap_lt h.glob) h.og (by omega)).trans h.glob, map := ownsMap_fr h.map f (ne_own h.ot h.ob (by omega)), has := h.has, atk := h.atk, cell := ?_, frs := ownsRow_fr h.frs f (fun j e => ne_own (h.ofr j e) h.ob (by omega)), pss := HP, ob := h.ob, og := h.og, ot := h.ot, ofr := h.ofr, ops := ?_, olt := (fun k hk => by simpa using h.olt k hk), glen := h.glen, pos := h.pos }, f.mono (fun k _ e => by subst e; rw [h.ob]; omega)⟩
  · rw [set_of h.blk0]; rfl
  · intro j l hc
    obtain ⟨d1, d2, d3⟩ := h.cell j l hc
    exact ⟨(keep _ _ (heap_lt d1) d2 (by omega)).trans d1, d2, d3⟩
  · intro j e
    exact h.ops j (by rw [hv]; cases ad <;> exact e)

/-- The list of the frames is cut. -/
theorem Mem.cutFr {w : World} {b : Nat} {g : Gh} {a : Abs} (h : Mem w b g a) {ad : Option Addr} {n cap k : Nat} (hv : g.fr = .slice ad n cap) (hk : k ≤ a.frs.length) :
    Mem (w.setCell ⟨b, 3, none⟩ (.slice ad k cap)) b { g with fr := .slice ad k cap } { a with frs := a.frs.take k } ∧ Fr (fun j => g.own j ≠ 0) w (w.setCell ⟨b, 3, none⟩ (.slice ad k cap)) := by
  have f : Fr (fun j => j = b) w (w.setCell ⟨b, 3, none⟩ (.slice ad k cap)) := Fr.setCell (S := fun j => j = b) (Fr.refl _ w) _ _ (Or.inl rfl)
  have keep : ∀ k' p, k' < w.heap.size → g.own k' = p → p ≠ 1 → (w.setCell ⟨b, 3, none⟩ (.slice ad k cap)).heap[k']? = w.heap[k']? := by
    intro k' p hk hp p1
    exact f.block k' hk (ne_own hp h.ob p1)
  have hlen : (a.frs.take k).length = k := by rw [List.length_take]; omega
  have HP : (w.setCell ⟨b, 3, none⟩ (.slice ad k cap)).ownsRow 0 3 1 (.slice ad k cap) (a.frs.take k).length ((a.frs.take k).map fun n : Nat => vI n) := by
    have hr := h.frs
    refine ⟨by simp, ?_⟩
    rw [hlen]
    rcases hr.2 with ⟨h2, h3⟩ | ⟨g7, cap', cur, e, h3, h4, h5, h6, h7, h8⟩
    · rw [hv] at h2
      cases h2
      have : k = 0 := by omega
      subst this
      exact Or.inl ⟨rfl, rfl⟩
    · rw [hv] at e
      cases e
      have ho : g.own g7 = 4 := h.ofr g7 (by rw [hv]; rfl)
      refine Or.inr ⟨g7, cap, cur, rfl, h3, (keep g7 4 (heap_lt h4) ho (by omega)).trans h4, by omega, h6, h7, ?_⟩
      rw [List.map_take, ← h8]
      rw [List.take_take]
      congr 1
      omega
  refine ⟨{ blk0 := ?_, glob := (keep g.gb 2 (heap_lt h.glob) h.og (by omega)).trans h.glob, map := ownsMap_fr h.map f (ne_own h.ot h.ob (by omega)), has := h.has, atk := h.atk, cell := ?_, pss := ownsRow_fr h.pss f (fun j e => ne_own (h.ops j e) h.ob (by omega)), frs := HP, ob := h.ob, og := h.og, ot := h.ot, ofr := ?_, ops := h.ops, olt := (fun k hk => by simpa using h.olt k hk), glen := h.glen, pos := h.pos }, f.mono (fun k _ e => by subst e; rw [h.ob]; omega)⟩
  · rw [set_of h.blk0]; rfl
  · intro j l hc
    obtain ⟨d1, d2, d3⟩ := h.cell j l hc
    exact ⟨(keep _ _ (heap_lt d1) d2 (by omega)).trans d1, d2, d3⟩
  · intro j e
    exact h.ofr j (by rw [hv]; cases ad <;> exact e)

end Go.Proofs.Ytmdlebolmhnhaab
