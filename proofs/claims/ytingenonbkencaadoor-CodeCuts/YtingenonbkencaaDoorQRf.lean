import Derived.Test.YtingenonbkencaaDoorQS3J
import Derived.Test.YtingenonbkencaaDoorQTa
set_option linter.unusedVariables false
set_option linter.unusedSimpArgs false
namespace Go.Proofs.YtingenonbkencaaDoor
open Go.RowKit (wrap32 wrap64)
theorem CS.fr {S : Nat → Prop} {w w' : World} {v : Value} {c : List PI} (h : CS S w v c) (f : Fr S w w') : CS S w' v c := by
  obtain ⟨h0, a, cp, e, h⟩ := h
  refine ⟨h0, a, cp, e, fun hne => ?_⟩
  obtain ⟨k, o, e, hk, hb, hc⟩ := h hne
  refine ⟨k, o, e, Nat.lt_of_lt_of_le hk f.size, hb, fun j hj => ?_⟩
  obtain ⟨av, rv, h1, h2, h3, h4, h5, h6, h7, h8, h9, h10⟩ := hc j hj
  exact ⟨av, rv, (f.cell hk hb).trans h1, (f.cell hk hb).trans h2, (f.cell hk hb).trans h3, (f.cell hk hb).trans h4, (f.cell hk hb).trans h5, (f.cell hk hb).trans h6, (f.cell hk hb).trans h7, h8.fr f, h9.fr f, h10⟩
theorem FS.fr {S : Nat → Prop} {w w' : World} {v : Value} {fs : List PF} (h : FS S w v fs) (f : Fr S w w') : FS S w' v fs := by
  obtain ⟨h0, a, cp, e, h⟩ := h
  refine ⟨h0, a, cp, e, fun hne => ?_⟩
  obtain ⟨k, o, e, hk, hb, hc⟩ := h hne
  refine ⟨k, o, e, Nat.lt_of_lt_of_le hk f.size, hb, fun j hj => ?_⟩
  obtain ⟨cv, h1, h2, h3, h4, h5⟩ := hc j hj
  exact ⟨cv, (f.cell hk hb).trans h1, (f.cell hk hb).trans h2, (f.cell hk hb).trans h3, (f.cell hk hb).trans h4, h5.fr f⟩
def startP (w : World) (G : Int) (fv : Value) : World :=
  ((((((w.alloc (.cells #[vI G, fv] 26)).alloc (.cells magicC 5 (6, 7))).alloc (.cells #[.slice (some ⟨w.heap.size + 1, 0, none⟩) 6 6] 53)).alloc (.cells rowsC 85)).alloc (.cells (WS.start (writerFn (w.heap.size + 2))).cells 87)).alloc (.cells #[.pointer (some ⟨w.heap.size + 4, 0, none⟩)] 46)).alloc (.cells #[vI 0, vI 0] 50)
theorem startP_at (w : World) (G : Int) (fv : Value) : (startP w G fv).heap[w.heap.size]? = some (.cells #[vI G, fv] 26) ∧ (startP w G fv).heap[w.heap.size + 1]? = some (.cells magicC 5 (6, 7)) ∧
    (startP w G fv).heap[w.heap.size + 2]? = some (.cells #[.slice (some ⟨w.heap.size + 1, 0, none⟩) 6 6] 53) ∧ (startP w G fv).heap[w.heap.size + 4]? = some (.cells (WS.start (writerFn (w.heap.size + 2))).cells 87) ∧
    (startP w G fv).heap[w.heap.size + 5]? = some (.cells #[.pointer (some ⟨w.heap.size + 4, 0, none⟩)] 46) ∧ (startP w G fv).heap[w.heap.size + 6]? = some (.cells #[vI 0, vI 0] 50) ∧ (startP w G fv).heap.size = w.heap.size + 7 ∧ Fr (fun _ => False) w (startP w G fv) := by
  have last : ∀ (v : World) (o : Obj) (n : Nat), v.heap.size = n → (v.alloc o).heap[n]? = some o := fun v o n h => by rw [← h]; exact heap_alloc_last v o
  have past : ∀ (v : World) (o : Obj) (n : Nat), n < v.heap.size → (v.alloc o).heap[n]? = v.heap[n]? := fun v o n h => Go.RowKit.Below.heap_alloc v o n h
  unfold startP
  refine ⟨?_, ?_, ?_, ?_, ?_, ?_, by simp, Fr.alloc (Fr.alloc (Fr.alloc (Fr.alloc (Fr.alloc (Fr.alloc (Fr.alloc (Fr.refl _ w) _) _) _) _) _) _) _⟩
  · rw [past _ _ _ (by simp; try omega), past _ _ _ (by simp; try omega), past _ _ _ (by simp; try omega), past _ _ _ (by simp; try omega), past _ _ _ (by simp; try omega), past _ _ _ (by simp; try omega), last _ _ _ rfl]
  · rw [past _ _ _ (by simp; try omega), past _ _ _ (by simp; try omega), past _ _ _ (by simp; try omega), past _ _ _ (by simp; try omega), past _ _ _ (by simp; try omega), last _ _ _ (by simp; try omega)]
  · rw [past _ _ _ (by simp; try omega), past _ _ _ (by simp; try omega), past _ _ _ (by simp; try omega), past _ _ _ (by simp; try omega), last _ _ _ (by simp; try omega)]
  · rw [past _ _ _ (by simp; try omega), past _ _ _ (by simp; try omega), last _ _ _ (by simp; try omega)]
  · rw [past _ _ _ (by simp; try omega), last _ _ _ (by simp; try omega)]
  · rw [last _ _ _ (by simp; try omega)]
def RoomOk (R : Nat) : Prop := 5368971270 ≤ R ∧ 6 + 8 * R ≤ 1000000000000
def encK (n R : Nat) (G : Int) (fs : List PF) : X (WS × (Nat × List UInt8)) := overK (writing (n + 4) (n + 2) (n + 1) (n + 8)) G fs (WS.start (writerFn (n + 2)), ((R, magicL) : Nat × List UInt8))
def EncJ (R : Nat) (w : World) (G : Int) (fs : List PF) (fv : Value) (w' : World) : Prop :=
  Fr (fun k => k = w.heap.size + 4 ∨ k = w.heap.size + 2) (startP w G fv) w' ∧ ∃ y bv, encK w.heap.size R G fs = .ok y ∧ w'.heap[w.heap.size + 2]? = some (.cells #[bv] 53) ∧ Handed w' bv y.2.2 ∧ ∃ a c, bv = .slice a y.2.2.length c
def EncN (R : Nat) (w : World) (G : Int) (fs : List PF) (fv : Value) (er at' : Int) (w' : World) : Prop :=
  Fr (fun k => k = w.heap.size + 4 ∨ k = w.heap.size + 2) (startP w G fv) w' ∧ encK w.heap.size R G fs = .error (er, at')
theorem over_encP {R : Nat} (hR : RoomOk R) (w : World) (G : Int) (fs : List PF) (fv : Value) (b0 : Nat) (hl : FL b0 w fv fs) (hc : ∀ f ∈ fs, ∀ c ∈ f.code, In64n c) (hT : Tab w) (h0 : 0 < w.heap.size) :
    Calls Tryd.prog 36 #[.pointer (some ⟨w.heap.size + 4, 0, none⟩), .agg #[vI G, fv]] (startP w G fv) fun e w' => (e = .returned (.tuple #[]) ∧ EncJ R w G fs fv w') ∨ ∃ er at', e = .panicked (viol er at') ∧ EncN R w G fs fv er at' w' := by
  obtain ⟨s0, s1, s2, s4, s5, s6, hsz, hsf⟩ := startP_at w G fv
  have hSB : ∀ k, (writing (w.heap.size + 4) (w.heap.size + 2) (w.heap.size + 1) (w.heap.size + 8)).SB k → k = w.heap.size + 4 ∨ k = w.heap.size + 2 ∨ w.heap.size + 8 ≤ k := fun k h => h
  have hFS : FS (writing (w.heap.size + 4) (w.heap.size + 2) (w.heap.size + 1) (w.heap.size + 8)).SB (startP w G fv) fv fs :=
    (hl.out (fun k hk _ h => by have := hSB k h; omega)).fr (hsf.mono (fun _ _ h => h.elim))
  refine (over_K (writing_KM (w.heap.size + 4) (w.heap.size + 2) (w.heap.size + 1) (w.heap.size + 8)) (WS.start (writerFn (w.heap.size + 2))) ((R, magicL) : Nat × List UInt8) (startP w G fv) s4 hR.1 G fv fs hFS (fun k e h => by have := hSB k h; omega) ?_).mono ?_
  · intro w1 s' hf hp hls hn hat
    refine ⟨hls, hn, ?_, hR.2, by omega, by omega, by omega, by omega, by omega, by omega, (hT.fr hsf (fun h => h)).fr hf (by omega), .slice (some ⟨w.heap.size + 1, 0, none⟩) 6 6, ?_, Or.inr ⟨rfl, ?_⟩, by omega, by omega, by omega, ?_⟩
    · show s'.at' = _; rw [hat]; rfl
    · rw [hf.block _ (by omega) (by omega)]; exact s2
    · intro j u hu
      rw [hf.cell (by omega) (by omega)]
      unfold World.cell?
      simp only [s1, Option.isSome_none, Bool.false_eq_true, if_false]
      have : (magicL.map u8v)[j]? = some u := hu
      rw [← this]
      show magicC[j]? = _
      rw [← Array.getElem?_toList]
      rfl
    · have := (Array.getElem?_eq_some_iff.1 hp).1; omega
  · rintro e w' ⟨hf, hres⟩
    have hf' : Fr (fun k => k = w.heap.size + 4 ∨ k = w.heap.size + 2) (startP w G fv) w' := hf.mono (fun k hk h => by have := hSB k h; omega)
    have hk : encK w.heap.size R G fs = overK (writing (w.heap.size + 4) (w.heap.size + 2) (w.heap.size + 1) (w.heap.size + 8)) G fs (WS.start (writerFn (w.heap.size + 2)), ((R, magicL) : Nat × List UInt8)) := rfl
    cases hx : overK (writing (w.heap.size + 4) (w.heap.size + 2) (w.heap.size + 1) (w.heap.size + 8)) G fs (WS.start (writerFn (w.heap.size + 2)), ((R, magicL) : Nat × List UInt8)) with
    | error z =>
      rw [hx] at hres
      exact Or.inr ⟨z.1, z.2, hres, hf', hk.trans hx⟩
    | ok y =>
      rw [hx] at hres
      obtain ⟨rfl, x, hon, hal⟩ := hres
      obtain ⟨h1, h2, -, -, -, -, -, -, -, bv, hrow⟩ := hon.2.2
      have e2 : (x.2 : Nat × List UInt8) = y.2 := hal.2
      have hrow' : Row w' (w.heap.size + 2) (w.heap.size + 1) (w.heap.size + 8) (y.2 : Nat × List UInt8).2 bv := by rw [← e2]; exact hrow
      have hlen : (y.2 : Nat × List UInt8).2.length ≤ 1000000000000 := by
        rw [← e2]
        have h2' : (x.2 : Nat × List UInt8).2.length + 8 * (x.2 : Nat × List UInt8).1 ≤ 1000000000000 := h2
        omega
      refine Or.inl ⟨rfl, hf', y, bv, hk.trans hx, hrow'.var, ?_⟩
      have hm := (over_back (br := 0) (rv := nilS) (vr := nilS) (fv := nilS) hR.2 hc hx).2.2.2.2
      have hne : (y.2 : Nat × List UInt8).2 ≠ [] := by
        intro e
        have h3 := hm.length_le
        rw [e] at h3
        simp [magicL] at h3
      obtain ⟨k1, a, c, k2⟩ := row_handed hrow' hne (by omega)
      exact ⟨k1, a, c, k2⟩
end Go.Proofs.YtingenonbkencaaDoor
