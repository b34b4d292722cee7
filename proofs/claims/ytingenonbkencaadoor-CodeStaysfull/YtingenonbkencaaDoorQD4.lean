import Derived.Test.YtingenonbkencaaDoorQD1J
import Derived.Test.YtingenonbkencaaDoorQF3J
import Derived.Test.YtingenonbkencaaDoorQG7
import Derived.Test.YtingenonbkencaaDoorQS2J
namespace Go.Proofs.YtingenonbkencaaDoor
open Go.RowKit (wrap32 wrap64)
set_option linter.unusedVariables false
set_option linter.unusedSimpArgs false
def Handed (w : World) (rv : Value) (bs : List UInt8) : Prop :=
  bs.length ≤ 1000000000000000 ∧ ((bs = [] ∧ rv = .slice none 0 0) ∨ (bs ≠ [] ∧ ∃ k o c, rv = .slice (some ⟨k, o, none⟩) bs.length c ∧ bs.length ≤ c ∧ k < w.heap.size ∧ ∀ i, (h : i < bs.length) → w.cell? ⟨k, o + i, none⟩ = some (.int .u8 bs[i].toNat)))
def DecEnds (w : World) (bs : List UInt8) (e : Ending) (w' : World) : Prop :=
  Fr (fun _ => False) w w' ∧ match decX bs with
    | .error z => e = .returned (.tuple #[.agg #[vI 0, .slice none 0 0], vI z.1, vI z.2])
    | .ok (G, done, fs) => ∃ v, e = .returned (.tuple #[v, vI 0, vI 0]) ∧ LaidP w w' v G done fs
theorem startW_size (w : World) (rv : Value) : (startW w rv).heap.size = w.heap.size + 7 := by unfold startW; simp
theorem startW_fr (w : World) (rv : Value) : Fr (fun _ => False) w (startW w rv) := by
  unfold startW
  exact Fr.alloc (Fr.alloc (Fr.alloc (Fr.alloc (Fr.alloc (Fr.alloc (Fr.alloc (Fr.refl _ w) _) _) _) _) _) _) _
theorem startW_at (w : World) (rv : Value) : (startW w rv).heap[w.heap.size]? = some (.cells #[vI 0, .slice none 0 0] 26) ∧ (startW w rv).heap[w.heap.size + 3]? = some (.cells (WS.start (readerFn rv)).cells 87) ∧
    (startW w rv).heap[w.heap.size + 5]? = some (.cells #[vI 0, .slice none 0 0] 26) ∧ (startW w rv).heap[w.heap.size + 6]? = some (.cells #[vI 0, vI 0] 50) := by
  have last : ∀ (v : World) (o : Obj) (n : Nat), v.heap.size = n → (v.alloc o).heap[n]? = some o := fun v o n h => by rw [← h]; exact heap_alloc_last v o
  have past : ∀ (v : World) (o : Obj) (n : Nat), n < v.heap.size → (v.alloc o).heap[n]? = v.heap[n]? := fun v o n h => Go.RowKit.Below.heap_alloc v o n h
  unfold startW
  refine ⟨?_, ?_, ?_, ?_⟩
  · rw [past _ _ _ (by simp; try omega), past _ _ _ (by simp; try omega), past _ _ _ (by simp; try omega), past _ _ _ (by simp; try omega), past _ _ _ (by simp; try omega), past _ _ _ (by simp; try omega), last _ _ _ rfl]
  · rw [past _ _ _ (by simp; try omega), past _ _ _ (by simp; try omega), past _ _ _ (by simp; try omega), last _ _ _ (by simp; try omega)]
  · rw [past _ _ _ (by simp; try omega), last _ _ _ (by simp; try omega)]
  · rw [last _ _ _ (by simp; try omega)]
theorem LaidP.back {w0 w1 w w' : World} {v : Value} {G : Int} {done : List HD} {fs : List (List AI)} {S : Nat → Prop} (h : LaidP w1 w v G done fs) (hs : w0.heap.size ≤ w1.heap.size) (f : Fr S w w') (hS : ∀ k, w1.heap.size ≤ k → k < w.heap.size → ¬ S k) : LaidP w0 w' v G done fs := by
  obtain ⟨g, cap, cs, tl, h1, h2, h3, h4, h5, h6, h7, h8, h9⟩ := h
  have hg := (Array.getElem?_eq_some_iff.1 h7).1
  exact ⟨g, cap, cs, tl, Nat.le_trans hs h1, h2, h3, h4, h5, h6, by rw [f.block g hg (hS g h1 hg)]; exact h7, CodesAt.mono hs (h8.fr f hS), h9⟩
theorem decode_said (rv : Value) (bs : List UInt8) (w : World) (hb : Handed w rv bs) (hT : Tab w) (h0 : 0 < w.heap.size) :
    Calls Tryd.prog 10 #[rv] w (DecEnds w bs) := by
  obtain ⟨hL, hb⟩ := hb
  have hsz := startW_size w rv
  have hsf := startW_fr w rv
  obtain ⟨s0, s3, s5, s6⟩ := startW_at w rv
  obtain ⟨ra, rc, hrv⟩ : ∃ ra rc, rv = .slice ra bs.length rc := by
    rcases hb with ⟨rfl, rfl⟩ | ⟨-, k, o, c, rfl, -⟩
    · exact ⟨none, 0, rfl⟩
    · exact ⟨_, _, rfl⟩
  have hBO : BytesOf (w.heap.size + 3) (startW w rv) rv bs := by
    refine ⟨hL, ?_⟩
    rcases hb with ⟨rfl, rfl⟩ | ⟨hne, k, o, c, rfl, hc, hk, hcell⟩
    · exact ⟨none, 0, rfl, Nat.le_refl _, fun h => absurd rfl h⟩
    · refine ⟨_, c, rfl, hc, fun _ => ⟨k, o, rfl, by omega, by omega, fun i hi => ?_⟩⟩
      rw [hsf.cell hk (fun h => h)]
      exact hcell i hi
  have hon : On (reading (w.heap.size + 3) rv bs) (startW w rv) (WS.start (readerFn rv), ()) :=
    ⟨s3, rfl, hBO, by show (0 : Int) ≤ 6; omega, by show (6 : Int) ≤ _; omega, by omega, hT.fr hsf (fun h => h)⟩
  have hU : Under (w.heap.size + 3) rv (startW w rv).heap.size := ⟨by omega, by omega, fun k o n c e hne => by
    rcases hb with ⟨h1, h2⟩ | ⟨-, k', o', c', h2, -, hk, -⟩
    · rw [h2] at e; cases e
    · rw [h2] at e; cases e; omega⟩
  have hbeg : ∀ w1, Fr (fun k => k = w.heap.size + 3) (startW w rv) w1 → Calls Tryd.prog 60 #[.agg #[rv]] w1 fun e w' => (if bs.take 6 = magicL.take bs.length then e = .returned (.tuple #[]) else e = .panicked (viol 10 0)) ∧ w' = (w1.alloc (.cells #[rv] 45)).drew := by
    intro w1 hf1
    rcases hb with ⟨h1, h2⟩ | ⟨hne, k, o, c, h2, hc, hk, hcell⟩
    · subst h1
      rw [h2]
      refine (begins_nil w1).mono ?_
      rintro e w' ⟨h3, h4⟩
      exact ⟨by rw [if_pos (by simp)]; exact h3, h4⟩
    · rw [h2]
      refine begins_any k o c bs hc hL (by cases bs with | nil => exact absurd rfl hne | cons a l => simp) w1 (by have := hf1.size; omega) (fun i hi => ?_)
      rw [hf1.cell (by omega) (by omega), hsf.cell hk (fun h => h)]
      exact hcell i hi
  have ht := through_said (w.heap.size + 3) rv bs (WS.start (readerFn rv)) (startW w rv) hon hU rfl hbeg ra bs.length rc hrv
  subst hrv
  clear hbeg hon hU hBO hb
  have hsp : ∀ w0, Fr (fun k => k = w.heap.size + 3) (startW w (.slice ra bs.length rc)) w0 → Spared w.heap.size w0 ∧ (∃ u0 u1, w0.cell? ⟨w.heap.size + 5, 0, none⟩ = some u0 ∧ w0.cell? ⟨w.heap.size + 5, 1, none⟩ = some u1) ∧ ∀ o, w0.frozen? ⟨w.heap.size + 5, o, none⟩ = false := by
    intro w0 hf
    have e0 : w0.heap[w.heap.size]? = some (.cells #[vI 0, .slice none 0 0] 26) := by rw [hf.block _ (by omega) (by omega)]; exact s0
    have e5 : w0.heap[w.heap.size + 5]? = some (.cells #[vI 0, .slice none 0 0] 26) := by rw [hf.block _ (by omega) (by omega)]; exact s5
    have e6 : w0.heap[w.heap.size + 6]? = some (.cells #[vI 0, vI 0] 50) := by rw [hf.block _ (by omega) (by omega)]; exact s6
    refine ⟨⟨e0, ?_, ?_, ?_⟩, ⟨vI 0, .slice none 0 0, ?_, ?_⟩, ?_⟩
    · unfold World.cell?; simp [e6]
    · unfold World.cell?; simp [e6]
    · intro o; unfold World.frozen?; simp [e6]
    · unfold World.cell?; simp [e5]
    · unfold World.cell?; simp [e5]
    · intro o; unfold World.frozen?; simp [e5]
  refine (decode_any ra bs.length rc w
    (fun G a n c w0 => Fr (fun k => k = w.heap.size + 3) (startW w (.slice ra bs.length rc)) w0 ∧ ∃ done fs, decX bs = .ok (G, done, fs) ∧ LaidP (startW w (.slice ra bs.length rc)) w0 (.agg #[vI G, .slice a n c]) G done fs)
    (fun er at' w0 => Fr (fun k => k = w.heap.size + 3) (startW w (.slice ra bs.length rc)) w0 ∧ decX bs = .error (er, at'))
    (fun G a n c w0 h => ⟨(hsp w0 h.1).1, (hsp w0 h.1).2.1⟩) (fun er at' w0 h => ⟨decX_told hL h.2, (hsp w0 h.1).1⟩) ?_).mono ?_
  · refine ht.mono ?_
    rintro e w0 ⟨hf, fv, hr⟩
    rw [decX_eq hL] at hr
    cases hd : decX bs with
    | error z =>
      rw [hd] at hr
      exact Or.inr ⟨z.1, z.2, hr, hf, rfl⟩
    | ok q =>
      obtain ⟨G, done, fs⟩ := q
      rw [hd] at hr
      obtain ⟨v, rfl, hl⟩ := hr
      obtain ⟨g, cap, cs, tl, h1, h2, hrest⟩ := hl
      refine Or.inl ⟨G, some ⟨g, 0, none⟩, done.length, cap, by rw [h2], ⟨hf, done, fs, rfl, g, cap, cs, tl, h1, rfl, hrest⟩, (hsp w0 hf).2.1, (hsp w0 hf).2.2⟩
  · have hfin : ∀ w0 w', Fr (fun k => k = w.heap.size + 3) (startW w (.slice ra bs.length rc)) w0 → Fr (fun k => w.heap.size ≤ k ∧ k < w.heap.size + 7) w0 w' → Fr (fun _ => False) w w' := by
      intro w0 w' f1 f2
      have h1 : Fr (fun k => w.heap.size ≤ k) w w' := ((hsf.mono (fun _ _ h => h.elim)).trans (f1.mono (fun k _ hk => by omega))).trans (f2.mono (fun k _ hk => hk.1))
      exact h1.mono (fun k hk hS => by omega)
    rintro e w' (⟨G, a, l, c, w0, ⟨hf, done, fs, hd, hl⟩, rfl, hf'⟩ | ⟨er, at', w0, ⟨hf, hd⟩, rfl, hf'⟩)
    · refine ⟨hfin w0 w' hf hf', ?_⟩
      rw [hd]
      exact ⟨_, rfl, hl.back (by omega) hf' (fun k hk _ => by omega)⟩
    · refine ⟨hfin w0 w' hf hf', ?_⟩
      rw [hd]
end Go.Proofs.YtingenonbkencaaDoor
