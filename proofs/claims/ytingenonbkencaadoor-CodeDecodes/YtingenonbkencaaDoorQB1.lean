import Derived.Test.YtingenonbkencaaDoorQA3
set_option linter.unusedVariables false
set_option linter.unusedSimpArgs false
namespace Go.Proofs.YtingenonbkencaaDoor
open Go.RowKit (wrap32 wrap64)
def reading (b : Nat) (rv : Value) (bs : List UInt8) : Mode b where
 σ := Unit
 S := fun _ => False
 N := fun k => k = 0 ∨ ∃ o n c, rv = .slice (some ⟨k, o, none⟩) n c
 fn := readerFn rv
 I := fun _ p w => BytesOf b w rv bs ∧ 0 ≤ p ∧ p ≤ bs.length + 6 ∧ b ≠ 0 ∧ Tab w
 eff := fun _ p size _ => match rd bs p.toNat size with | .ok v => .ok (v, ()) | .error z => .error z
 tab := fun _ _ _ h => h.2.2.2.2
 stable := fun _ _ _ _ h f => ⟨h.1.fr f (fun _ hk _ => hk), h.2.1, h.2.2.1, h.2.2.2.1, h.2.2.2.2.fr f (fun e => h.2.2.2.1 e.symm)⟩
theorem wrap_small (x : Int) (h : -1000000000000000000 ≤ x) (h' : x ≤ 1000000000000000000) : IntKind.i64.wrap x = x := by
 rw [IntKind.wrap_i64]; omega
theorem cell_lt {w : World} {k o : Nat} {u : Value} (h : w.cell? ⟨k, o, none⟩ = some u) : k < w.heap.size := by
 unfold World.cell? at h
 by_cases hk : k < w.heap.size
 ·exact hk
 ·simp [Array.getElem?_eq_none (Nat.le_of_not_lt hk)] at h
theorem reading_own (b : Nat) (rv : Value) (bs : List UInt8) : NextOwn (reading b rv bs) := by
 intro o ho x size w hx hs1 hs8
 obtain ⟨⟨s, st⟩, hl, hn, hR, hp0, hp1, hb0, hT⟩ : ∃ y : WS × Unit, Lies w b x.1 ∧ x.1.num = readerFn rv ∧ BytesOf b w rv bs ∧ 0 ≤ x.1.at' ∧ x.1.at' ≤ bs.length + 6 ∧ b ≠ 0 ∧ Tab w := ⟨x, hx⟩
 clear s st
 obtain ⟨s, st⟩ := x
 simp only at hl hn hp0 hp1
 obtain ⟨p, hp⟩ := Int.eq_ofNat_of_zero_le hp0
 have h0 : w.cell? ⟨b, 0, none⟩ = some (readerFn rv) := by rw [hl.facts.1, hn]
 have h1 : w.cell? ⟨b, 1, none⟩ = some (.int .i64 p) := by rw [hl.facts.2.1, hp]
 have hlen := hR.1
 have hu : w.cell? ⟨b, o, none⟩ = some (vI (s.get o)) := by rw [hl.cell, cells_get s o ho]
 have hadv : adv s.at' size = ((p : Int) + size) := by unfold adv; rw [hp, wrap_small _ (by omega) (by omega)]
 have het : s.at'.toNat = p := by omega
 unfold nextX
 simp only [reading, rd, het]
 by_cases h : p + size ≤ bs.length
 ·have hne : ¬ (b = b ∧ o = 1) := by
   rintro ⟨-, rfl⟩; simp [places] at ho
  refine (next_reads b b o rv _ bs p size w h0 h1 (hl.frozen 1) hu (hl.frozen o) hne hl.lt hl.lt hR.plain h hs1 hs8).mono ?_
  rintro e w' ⟨rfl, rfl⟩
  have hfr : Fr (fun k => k = b) w (((w.setCell ⟨b, o, none⟩ (vI (wrap64 (leAt bs p size)))).setCell ⟨b, 1, none⟩ (vI (p + size))).alloc (.cells #[rv] 45)) :=
   Fr.alloc (Fr.setCell (Fr.setCell (Fr.refl (fun k => k = b) w) _ _ (Or.inl rfl)) _ _ (Or.inl rfl)) _
  refine ⟨hfr.mono (fun k _ hk => Or.inl hk), ?_⟩
  simp only [if_pos h]
  refine ⟨by rw [hp], ?_, ?_, ?_⟩
  ·rw [hadv]
   exact Lies.alloc (Lies.setCell (hl.setCell o _ (cells_set s o _ ho)) 1 _ (cells_at _ _)) _
  ·simpa [set_num] using hn
  ·refine ⟨hR.fr hfr (fun _ hk _ => hk), ?_⟩
   simp only [hadv]; exact ⟨by omega, by omega, hb0, hT.fr hfr (fun e => hb0 e.symm)⟩
 ·refine (next_short b b o rv bs p size w h0 h1 hR.plain h (by omega) hs8).mono ?_
  rintro e w' ⟨rfl, rfl⟩
  refine ⟨(Fr.alloc (Fr.refl (fun k => k = b) w) _).mono (fun k _ hk => Or.inl hk), ?_⟩
  simp only [if_neg h]
theorem reading_other (b : Nat) (rv : Value) (bs : List UInt8) : NextOther (reading b rv bs) := by
 intro pb po hpb _ hN x old size w hx hs1 hs8 hu hfz
 have hpk : ∀ a c, rv = .slice a bs.length c → ∀ k o, a = some ⟨k, o, none⟩ → bs ≠ [] → k ≠ pb := by
  intro a c e k o e' _ hk
  subst hk
  exact hN (Or.inr ⟨o, bs.length, c, by rw [e, e']⟩)
 have hz : pb ≠ 0 := fun h => hN (Or.inl h)
 obtain ⟨s, st⟩ := x
 obtain ⟨hl, hn, hR, hp0, hp1, hb0, hT⟩ := hx
 simp only at hl hn hp0 hp1
 obtain ⟨p, hp⟩ := Int.eq_ofNat_of_zero_le hp0
 have h0 : w.cell? ⟨b, 0, none⟩ = some (readerFn rv) := by rw [hl.facts.1, hn]; rfl
 have h1 : w.cell? ⟨b, 1, none⟩ = some (.int .i64 p) := by rw [hl.facts.2.1, hp]
 have hlen := hR.1
 have hadv : adv s.at' size = ((p : Int) + size) := by unfold adv; rw [hp, wrap_small _ (by omega) (by omega)]
 have het : s.at'.toNat = p := by omega
 simp only [reading, rd, het]
 by_cases h : p + size ≤ bs.length
 ·have hne : ¬ (pb = b ∧ po = 1) := fun h => hpb h.1
  refine (next_reads b pb po rv _ bs p size w h0 h1 (hl.frozen 1) hu hfz hne hl.lt (cell_lt hu) hR.plain h hs1 hs8).mono ?_
  rintro e w' ⟨rfl, rfl⟩
  have hfr : Fr (fun k => k = b ∨ k = pb) w (((w.setCell ⟨pb, po, none⟩ (vI (wrap64 (leAt bs p size)))).setCell ⟨b, 1, none⟩ (vI (p + size))).alloc (.cells #[rv] 45)) :=
   Fr.alloc (Fr.setCell (Fr.setCell (Fr.refl (fun k => k = b ∨ k = pb) w) _ _ (Or.inl (Or.inr rfl))) _ _ (Or.inl (Or.inl rfl))) _
  refine ⟨hfr.mono (fun k _ hk => hk.imp Or.inl id), ?_⟩
  simp only [if_pos h]
  refine ⟨by rw [hp], ⟨?_, hn, ?_⟩, ?_⟩
  ·rw [hadv]
   exact Lies.alloc (Lies.setCell (hl.other _ _ (Ne.symm hpb)) 1 _ (cells_at _ _)) _
  ·refine ⟨?_, ?_⟩
   ·obtain ⟨g1, a, c, g2, g3, g4⟩ := hR
    refine ⟨g1, a, c, g2, g3, fun hne => ?_⟩
    obtain ⟨k, o, e, hk, hb, hc⟩ := g4 hne
    have hkp := hpk a c g2 k o e hne
    exact ⟨k, o, e, Nat.lt_of_lt_of_le hk hfr.size, hb, fun i hi => (hfr.cell hk (fun h => h.elim hb hkp)).trans (hc i hi)⟩
   ·simp only [hadv]; exact ⟨by omega, by omega, hb0, hT.fr hfr (fun e => e.elim (fun e => hb0 e.symm) (fun e => hz e.symm))⟩
  ·have h5 : pb < w.heap.size := cell_lt hu
   rw [RowKit.Below.heap_alloc _ _ _ (by simpa using h5), RowKit.Below.heap_setCell _ _ _ _ (show pb ≠ b from hpb)]
 ·refine (next_short b pb po rv bs p size w h0 h1 hR.plain h (by omega) hs8).mono ?_
  rintro e w' ⟨rfl, rfl⟩
  refine ⟨Fr.alloc (Fr.refl _ w) _, ?_⟩
  simp only [if_neg h]
end Go.Proofs.YtingenonbkencaaDoor
