import Derived.Test.YtkkfiipnpdlkeaaQD2
namespace Go.Proofs.Ytkkfiipnpdlkeaa
open Go.RowKit (wrap32 wrap64)
open Go.MuLone
set_option linter.unusedVariables false
set_option linter.unusedSimpArgs false

/-- A deque and a slice of the call's own that share nothing, made since w. -/
structure On (w wr : World) (b N g : Nat) (ds : List Int) (tv : Value) (ts : List Int) : Prop where
  d : DN w wr b ds N g
  s : Wn wr w.heap.size tv ts
  ap : ∀ k, tv.ownBlock = some k → k ≠ b ∧ k ≠ g
  fr : Fr (fun _ => False) w wr

theorem On.pop {w wr : World} {b N g : Nat} {ds ts : List Int} {tv : Value} (h : On w wr b N g ds tv ts) (hN : N ≤ 35184372088832) :
    Calls Try.prog 12 #[.pointer (some ⟨b, 0, none⟩)] wr fun e w' => e = .returned (.tuple #[vI (popX ds).1, .bool (popX ds).2]) ∧ On w w' b N g ds.dropLast tv ts ∧ Fr (fun j => j = b ∨ j = g) wr w' := by
  refine (pop_dn w wr b g ds N (by omega) h.d h.fr).mono ?_
  rintro _ w' ⟨rfl, hd, hf, hF⟩
  exact ⟨rfl, ⟨hd, h.s.fr hf (fun k e => by have := h.ap k e; omega), h.ap, hF⟩, hf⟩
theorem On.steal {w wr : World} {b N g : Nat} {ds ts : List Int} {tv : Value} (h : On w wr b N g ds tv ts) (hN : N ≤ 35184372088832) :
    Calls Try.prog 10 #[.pointer (some ⟨b, 0, none⟩)] wr fun e w' => e = .returned (.tuple #[vI (stealX ds).1, .bool (stealX ds).2]) ∧ On w w' b N g ds.tail tv ts ∧ Fr (fun j => j = b ∨ j = g) wr w' := by
  refine (steal_dn w wr b g ds N (by omega) h.d h.fr).mono ?_
  rintro _ w' ⟨rfl, hd, hf, hF⟩
  exact ⟨rfl, ⟨hd, h.s.fr hf (fun k e => by have := h.ap k e; omega), h.ap, hF⟩, hf⟩
theorem On.len {w wr : World} {b N g : Nat} {ds ts : List Int} {tv : Value} (h : On w wr b N g ds tv ts) :
    Calls Try.prog 11 #[.pointer (some ⟨b, 0, none⟩)] wr fun e w' => e = .returned (vI ds.length) ∧ On w w' b N g ds tv ts ∧ Fr (fun j => j = b ∨ j = g) wr w' := by
  refine (len_dn w wr b g ds N h.d h.fr).mono ?_
  rintro _ w' ⟨rfl, hd, hf, hF⟩
  exact ⟨rfl, ⟨hd, h.s.fr hf (fun k e => by have := h.ap k e; omega), h.ap, hF⟩, hf.mono (fun _ _ h => Or.inl h)⟩
theorem On.push {w wr : World} {b N g : Nat} {ds ts : List Int} {tv : Value} (h : On w wr b N g ds tv ts) (x : Int) (hx : 2 * ds.length ≤ N) (hN0 : 1 ≤ N) (hN : N ≤ 35184372088832) :
    Calls Try.prog 9 #[.pointer (some ⟨b, 0, none⟩), vI x] wr fun e w' => e = .returned (.tuple #[]) ∧ ∃ g', On w w' b N g' (ds ++ [x]) tv ts := by
  refine (push_dn w wr b g ds x N hx hN0 hN h.d h.fr).mono ?_
  rintro _ w' ⟨rfl, ⟨g', hd, hg⟩, hf, hF⟩
  refine ⟨rfl, g', ⟨hd, h.s.fr hf (fun k e => by have := h.ap k e; omega), fun k e => ?_, hF⟩⟩
  have h1 := h.ap k e
  have h2 := (h.s.lt k e).2
  rcases hg with rfl | hg
  · exact h1
  · exact ⟨h1.1, by omega⟩
theorem On.append {w wr : World} {b N g : Nat} {ds ts : List Int} {tv : Value} (h : On w wr b N g ds tv ts) (x : Int) (ty : TypeId) (hl : ts.length ≤ 17592186044416) :
    ∃ v' w', (Builtin.append_ #[30, 30] ty #[tv, .slice (some ⟨wr.heap.size, 0, none⟩) 1 1]).run Try.prog (wr.alloc (.cells #[vI x] 3)) = .ok v' w' ∧ On w w' b N g ds v' (ts ++ [x]) ∧ Fr (fun j => tv.ownBlock = some j) wr w' ∧ ∀ k, v'.ownBlock = some k → tv.ownBlock = some k ∨ wr.heap.size ≤ k := by
  obtain ⟨v', w', hr, hs, hf, hb⟩ := h.s.append h.fr.size x ty hl
  refine ⟨v', w', hr, ⟨h.d.fr hf (fun e => (h.ap b e).1 rfl) (fun e => (h.ap g e).2 rfl), hs, fun k e => ?_, fr_new h.fr hf (fun j e => (h.s.lt j e).1)⟩, hf, hb⟩
  rcases hb k e with e | e
  · exact h.ap k e
  · have h1 := h.d.dq.blt
    have h2 := h.d.dq.glt
    omega
/-- The slice's near end cut off. -/
theorem On.cutNear {w wr : World} {b N g k o cap n : Nat} {ds ts : List Int} {x : Int} (h : On w wr b N g ds (.slice (some ⟨k, o, none⟩) n cap) (ts ++ [x])) :
    On w wr b N g ds (.slice (some ⟨k, o, none⟩) ts.length cap) ts ∧ wr.cell? ⟨k, o + ts.length, none⟩ = some (vI x) ∧ n = ts.length + 1 ∧ n ≤ cap := by
  obtain ⟨hd, hs, ha, hf⟩ := h
  rcases hs with ⟨e, -⟩ | ⟨k', o', cap', cur, e, h1, h2, h3, h4, h5⟩
  · cases e
  · injection e with e1 e2 e3
    injection e1 with e1
    injection e1 with e1 e4
    subst e1 e3 e4
    simp only [List.length_append, List.length_singleton] at e2 h4
    refine ⟨⟨hd, Or.inr ⟨k, o, cap, cur, rfl, h1, h2, h3, by omega, fun j hj => ?_⟩, ha, hf⟩, ?_, e2, by omega⟩
    · rw [h5 j (by simp; omega), List.getElem_append_left hj]
    · rw [cell_of h2, h5 ts.length (by simp)]
      simp
/-- The slice's far end cut off. -/
theorem On.cutFar {w wr : World} {b N g k o cap n : Nat} {ds ts : List Int} {x : Int} (h : On w wr b N g ds (.slice (some ⟨k, o, none⟩) n cap) (x :: ts)) :
    (∀ a, a = (if cap = 1 then some (⟨k, o, none⟩ : Addr) else some ⟨k, o + 1, none⟩) → On w wr b N g ds (.slice a ts.length (cap - 1)) ts) ∧ wr.cell? ⟨k, o, none⟩ = some (vI x) ∧ n = ts.length + 1 ∧ n ≤ cap := by
  obtain ⟨hd, hs, ha, hf⟩ := h
  rcases hs with ⟨e, -⟩ | ⟨k', o', cap', cur, e, h1, h2, h3, h4, h5⟩
  · cases e
  · injection e with e1 e2 e3
    injection e1 with e1
    injection e1 with e1 e4
    subst e1 e3 e4
    simp only [List.length_cons] at e2 h4
    refine ⟨?_, ?_, e2, by omega⟩
    · rintro a rfl
      by_cases hc : cap = 1
      · rw [if_pos hc]
        refine ⟨hd, Or.inr ⟨k, o, cap - 1, cur, rfl, h1, h2, by omega, by omega, fun j hj => by omega⟩, ha, hf⟩
      · rw [if_neg hc]
        refine ⟨hd, Or.inr ⟨k, o + 1, cap - 1, cur, rfl, h1, h2, by omega, by omega, fun j hj => ?_⟩, ha, hf⟩
        have := h5 (j + 1) (by simp; omega)
        rw [List.getElem_cons_succ] at this
        rw [← this]
        congr 1
        omega
    · have := h5 0 (by simp)
      rw [cell_of h2]
      simpa using this
/-- Where it lies, if there is something. -/
theorem On.spot {w wr : World} {b N g : Nat} {ds ts : List Int} {tv : Value} (h : On w wr b N g ds tv ts) (hne : ts ≠ []) : ∃ k o cap, tv = .slice (some ⟨k, o, none⟩) ts.length cap := by
  rcases h.s with ⟨-, e⟩ | ⟨k, o, cap, cur, e, -⟩
  · exact absurd e hne
  · exact ⟨k, o, cap, e⟩
end Go.Proofs.Ytkkfiipnpdlkeaa
