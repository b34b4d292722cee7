import Derived.Test.YtmdlebolmhnhaabA9
namespace Go.Proofs.Ytmdlebolmhnhaab
open Go.RowKit (wrap32 wrap64)
open Go.Maps (Keyed)
set_option linter.unusedVariables false
set_option linter.unusedSimpArgs false

theorem Fr.then {S S' : Nat → Prop} {a b c : World} (h : Fr S a b) (k : Fr S' b c) (hs : ∀ j, j < a.heap.size → S' j → S j) : Fr S a c :=
  ⟨k.os.trans h.os, k.tape.trans h.tape, k.output.trans h.output, Nat.le_trans h.size k.size, fun j hj hS => (k.block j (Nat.lt_of_lt_of_le hj h.size) (fun e => hS (hs j hj e))).trans (h.block j hj hS)⟩
/-- What was changed for the one is changed for the other, of what was there. -/
theorem Fr.ext {g g' : Gh} {a b c : World} (h : Fr (fun j => g.own j ≠ 0) a b) (x : Ext a.heap.size g g') (k : Fr (fun j => g'.own j ≠ 0) b c) : Fr (fun j => g.own j ≠ 0) a c :=
  h.then k (fun j hj e => by rw [x j hj] at e; exact e)
theorem Ext.trans {s s' : Nat} {g g' g'' : Gh} (h : Ext s g g') (k : Ext s' g' g'') (hs : s ≤ s') : Ext s g g'' := fun j hj => (k j (Nat.lt_of_lt_of_le hj hs)).trans (h j hj)
theorem Ext.refl (s : Nat) (g : Gh) : Ext s g g := fun _ _ => rfl

/-- A cell more. -/
def mkA (a : Abs) (n : Nat) : Abs := { a with made := a.made + 1, cells := upd a.cells (a.made + 1) (some (List.replicate n (0, 0))) }

theorem lit_ne {i j : Nat} (h : i ≠ j) : (Lit.int .i64 (i : Int)) ≠ .int .i64 (j : Int) := by
  intro e
  injection e with _ e
  exact h (Int.ofNat.inj e)

theorem Mem.made {w w2 : World} {b : Nat} {g : Gh} {a : Abs} (h : Mem w b g a) {n : Nat} (hn : n ≤ 8)
    (hown : w2.ownsMap Try.prog 3 Rc g.tb (a.made + 1) (g.D.put (.int .i64 ((a.made + 1 : Nat) : Int)) (cellD w.heap.size n)))
    (hturn : ((w.setCell ⟨b, 1, none⟩ (vI ((a.made + 1 : Nat) : Int))).drew.alloc (.cells (flat (List.replicate n (0, 0))).toArray 28)).mapTurned w2 g.tb) :
    ∃ g', Mem w2 b g' (mkA a n) ∧ Fr (fun j => g.own j ≠ 0) w w2 ∧ Ext w.heap.size g g' ∧ g'.tb = g.tb := by
  have hl := h.lt
  have htl := h.map.lt
  have f1 : Fr (fun k => k = b) w ((w.setCell ⟨b, 1, none⟩ (vI ((a.made + 1 : Nat) : Int))).drew.alloc (.cells (flat (List.replicate n (0, 0))).toArray 28)) :=
    Fr.alloc (Fr.drew (Fr.setCell (S := fun k => k = b) (Fr.refl _ w) _ _ (Or.inl rfl))) _
  have b1 : ((w.setCell ⟨b, 1, none⟩ (vI ((a.made + 1 : Nat) : Int))).drew.alloc (.cells (flat (List.replicate n (0, 0))).toArray 28)).heap[b]? = some (.cells ((memC g a).setIfInBounds 1 (vI ((a.made + 1 : Nat) : Int))) 60) := by
    rw [Go.RowKit.Below.heap_alloc _ _ _ (by simpa using hl)]
    exact set_of h.blk0 1 _
  have n1 : ((w.setCell ⟨b, 1, none⟩ (vI ((a.made + 1 : Nat) : Int))).drew.alloc (.cells (flat (List.replicate n (0, 0))).toArray 28)).heap[w.heap.size]? = some (.cells (flat (List.replicate n (0, 0))).toArray 28) := by
    have := heap_alloc_last ((w.setCell ⟨b, 1, none⟩ (vI ((a.made + 1 : Nat) : Int))).drew) (.cells (flat (List.replicate n (0, 0))).toArray 28)
    rwa [show ((w.setCell ⟨b, 1, none⟩ (vI ((a.made + 1 : Nat) : Int))).drew).heap.size = w.heap.size by simp] at this
  generalize (w.setCell ⟨b, 1, none⟩ (vI ((a.made + 1 : Nat) : Int))).drew.alloc (.cells (flat (List.replicate n (0, 0))).toArray 28) = w1 at *
  have f2 : Fr (fun k => some g.tb = some k) w1 w2 := grown_fr hturn.grown
  have nbt : b ≠ g.tb := ne_own h.ob h.ot (by omega)
  have keep : ∀ k p, k < w.heap.size → g.own k = p → p ≠ 1 → p ≠ 3 → w2.heap[k]? = w.heap[k]? := by
    intro k p hk hp p1 p3
    rw [f2.block k (Nat.lt_of_lt_of_le hk f1.size) (fun e => ne_own h.ot hp (Ne.symm p3) (Option.some.inj e)), f1.block k hk (ne_own hp h.ob p1)]
  have hsz : w.heap.size < w2.heap.size := Nat.lt_of_lt_of_le (heap_lt n1) f2.size
  have hown' : ∀ k, k < w.heap.size → (if k = w.heap.size then 6 + (a.made + 1) else g.own k) = g.own k := fun k hk => if_neg (by omega)
  have row : ∀ {v : Value} {xs : List Value} {m p : Nat}, w.ownsRow 0 3 1 v m xs → (∀ j, v.ownBlock = some j → g.own j = p) → p ≠ 1 → p ≠ 3 → w2.ownsRow 0 3 1 v m xs := by
    intro v xs m p hr ho p1 p3
    refine ⟨hr.1, ?_⟩
    rcases hr.2 with h2 | ⟨k, cap', cur, e, h3, h4, h5⟩
    · exact Or.inl h2
    · exact Or.inr ⟨k, cap', cur, e, h3, (keep k p (heap_lt h4) (ho k (by rw [e]; rfl)) p1 p3).trans h4, h5⟩
  have HPOS : ∀ x : Int, Maps.has (g.D.put (.int .i64 ((a.made + 1 : Nat) : Int)) (cellD w.heap.size n)) (.int .i64 x) = true → 0 ≤ x := by
    intro x hx
    by_cases e : x = ((a.made + 1 : Nat) : Int)
    · omega
    · rw [Maps.has_put_other (show (Lit.int .i64 x) ≠ .int .i64 ((a.made + 1 : Nat) : Int) from fun h => e (by injection h))] at hx
      exact h.pos x hx
  refine ⟨{ g with D := g.D.put (.int .i64 ((a.made + 1 : Nat) : Int)) (cellD w.heap.size n), blk := fun i => if i = a.made + 1 then w.heap.size else g.blk i, own := fun k => if k = w.heap.size then 6 + (a.made + 1) else g.own k }, ?_, ?_, hown', rfl⟩
  · refine { blk0 := ?_, glob := (keep g.gb 2 (heap_lt h.glob) h.og (by omega) (by omega)).trans h.glob, map := hown, has := ?_, atk := ?_, cell := ?_, frs := row h.frs h.ofr (by omega) (by omega), pss := row h.pss h.ops (by omega) (by omega), ob := (hown' _ hl).trans h.ob, og := (hown' _ (heap_lt h.glob)).trans h.og, ot := (hown' _ htl).trans h.ot, ofr := (fun j e => (hown' j (h.olt j (by rw [h.ofr j e]; omega))).trans (h.ofr j e)), ops := (fun j e => (hown' j (h.olt j (by rw [h.ops j e]; omega))).trans (h.ops j e)), olt := ?_, glen := h.glen, pos := HPOS }
    · rw [f2.block b (heap_lt b1) (fun e => nbt (Option.some.inj e).symm), b1]
      rfl
    · intro i
      simp only [mkA, upd]
      by_cases hi : i = a.made + 1
      · subst hi
        rw [if_pos rfl]
        exact Maps.has_put_same h.map.isMap (show WideAt.IsKeyLit (.int .i64 ((a.made + 1 : Nat) : Int)) from trivial) _
      · rw [if_neg hi, Maps.has_put_other (lit_ne hi), h.has i]
    · intro i l hc
      simp only [mkA, upd] at hc
      by_cases hi : i = a.made + 1
      · subst hi
        rw [if_pos rfl] at hc
        cases hc
        simp only [List.length_replicate, if_true]
        exact Maps.atKey_put_same h.map.isMap (show WideAt.IsKeyLit (.int .i64 ((a.made + 1 : Nat) : Int)) from trivial) _ _
      · rw [if_neg hi] at hc
        simp only [if_neg hi]
        rw [Maps.atKey_put_other (lit_ne hi)]
        exact h.atk i l hc
    · intro i l hc
      simp only [mkA, upd] at hc
      by_cases hi : i = a.made + 1
      · subst hi
        rw [if_pos rfl] at hc
        cases hc
        simp only [if_true]
        refine ⟨?_, trivial, by omega, Nat.le_refl _, by simpa using hn⟩
        rw [f2.block _ (heap_lt n1) (fun e => by have := Option.some.inj e; omega)]
        exact n1
      · rw [if_neg hi] at hc
        obtain ⟨d1, d2, d3, d4, d5⟩ := h.cell i l hc
        simp only [if_neg hi]
        exact ⟨(keep _ _ (heap_lt d1) d2 (by omega) (by omega)).trans d1, (hown' _ (heap_lt d1)).trans d2, d3, by simp only [mkA]; omega, d5⟩
    · intro k hk
      simp only at hk
      split at hk
      · omega
      · have := h.olt k hk; omega
  · exact (f1.mono (fun k _ e => by subst e; rw [h.ob]; omega)).trans (f2.mono (fun k _ e => by cases e; rw [h.ot]; omega))

end Go.Proofs.Ytmdlebolmhnhaab
