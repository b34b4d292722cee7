import Derived.Test.YtcjfmfddkhpfnaaQC0J
namespace Go.Proofs.Ytcjfmfddkhpfnaa
open Go.RowKit (wrap32 wrap64)
set_option linter.unusedVariables false
set_option linter.unusedSimpArgs false

/-- A right graph and its weights, as a statement holds them. -/
structure Gs (w wr : World) (K hb xb : Nat) (n : Nat) (hev hrv : Value) (E : List Ed) (R : List Int) (x : Nat → Int) : Prop where
  h : wr.heap[hb]? = some (.cells #[vI n, hev, hrv] 34)
  e : EdgesAt K wr hev E
  r : IntsAt K wr hrv R
  x : Row wr 3 xb n (fun i => vI (x i))
  lt : hb < K ∧ xb < K ∧ w.heap.size ≤ K ∧ K ≤ wr.heap.size
  fr : Fr (fun _ => False) w wr
theorem Gs.keep {S : Nat → Prop} {w wr w' : World} {K hb xb n : Nat} {hev hrv : Value} {E : List Ed} {R : List Int} {x : Nat → Int} (h : Gs w wr K hb xb n hev hrv E R x) (f : Fr S wr w') (hS : ∀ k, k < K → ¬ S k) : Gs w w' K hb xb n hev hrv E R x where
  h := (f.block _ (heap_lt h.h) (hS _ h.lt.1)).trans h.h
  e := h.e.fr f h.lt.2.2.2 (fun k hk => hS k hk)
  r := h.r.fr f h.lt.2.2.2 (fun k hk => hS k hk)
  x := h.x.fr f (hS _ h.lt.2.1)
  lt := ⟨h.lt.1, h.lt.2.1, h.lt.2.2.1, Nat.le_trans h.lt.2.2.2 f.size⟩
  fr := h.fr.anew f (fun j hj e => hS j (Nat.lt_of_lt_of_le hj h.lt.2.2.1) e)
theorem Gs.stay {w wr w' : World} {K hb xb n : Nat} {hev hrv : Value} {E : List Ed} {R : List Int} {x : Nat → Int} (h : Gs w wr K hb xb n hev hrv E R x) (f : Fr (fun _ => False) wr w') : Gs w w' K hb xb n hev hrv E R x := h.keep f (fun _ _ h => h)
theorem Gs.heads {w wr : World} {K hb xb n : Nat} {hev hrv : Value} {E : List Ed} {R : List Int} {x : Nat → Int} (h : Gs w wr K hb xb n hev hrv E R x) : wr.cell? ⟨hb, 0, none⟩ = some (vI n) ∧ wr.cell? ⟨hb, 1, none⟩ = some hev ∧ wr.cell? ⟨hb, 2, none⟩ = some hrv := by
  simp only [cell_of h.h]
  exact ⟨rfl, rfl, rfl⟩

/-- The box of a graph that came in, behind what a call made. -/
theorem box_kept {w w1 : World} {o : Obj} (f : Fr (fun _ => False) (w.alloc o) w1) : w1.heap[w.heap.size]? = some o := (f.block _ (heap_lt (heap_alloc_last w o)) (fun h => h)).trans (heap_alloc_last w o)

theorem mem_nat {n : Nat} {e : Ed} (h : RightE n e) : ∃ d s : Nat, e = ((d : Int), (s : Int), e.2.2) ∧ d < n ∧ s < n := by
  obtain ⟨⟨h1, h2⟩, ⟨h3, h4⟩, -⟩ := h
  exact ⟨e.1.toNat, e.2.1.toNat, by rw [Int.toNat_of_nonneg h1, Int.toNat_of_nonneg h3], by omega, by omega⟩

end Go.Proofs.Ytcjfmfddkhpfnaa
