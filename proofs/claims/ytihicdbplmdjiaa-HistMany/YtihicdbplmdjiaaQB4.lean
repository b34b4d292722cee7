import Derived.Test.YtihicdbplmdjiaaQB3
namespace Go.Proofs.Ytihicdbplmdjiaa
open Go.RowKit (wrap32 wrap64)
set_option linter.unusedVariables false
set_option linter.unusedSimpArgs false

/-! ### the least call that waits for none that is left -/
def freeB (s : Nat) (ws : List Nat) (i : Nat) : Bool := s.testBit i && decide (s &&& ws.getD i 0 = 0)
def leastX (s : Nat) (ws : List Nat) : Option Nat := (List.range ws.length).find? (freeB s ws)
theorem leastX_some {s : Nat} {ws : List Nat} {k : Nat} (hk : k < ws.length) (h : freeB s ws k = true) (h2 : ∀ i, i < k → freeB s ws i = false) : leastX s ws = some k := by
  unfold leastX
  rw [List.find?_eq_some_iff_append]
  refine ⟨h, List.range k, (List.range ws.length).drop (k + 1), ?_, fun a ha => by rw [h2 a (List.mem_range.1 ha)]; rfl⟩
  have e1 : List.range ws.length = (List.range ws.length).take k ++ (List.range ws.length).drop k := (List.take_append_drop _ _).symm
  rw [List.drop_eq_getElem_cons (by simpa using hk), List.getElem_range, List.take_range, Nat.min_eq_left (by omega)] at e1
  exact e1
theorem leastX_none {s : Nat} {ws : List Nat} (h2 : ∀ i, i < ws.length → freeB s ws i = false) : leastX s ws = none := by
  unfold leastX
  rw [List.find?_eq_none]
  intro a ha
  rw [h2 a (List.mem_range.1 ha)]
  simp
def leastI (s : Nat) (ws : List Nat) : Int := match leastX s ws with | some i => (i : Int) | none => -1

set_option maxRecDepth 100000 in
set_option maxHeartbeats 4000000 in
theorem leastFree_any (s : Nat) (v : Value) (ws : List Nat) (w : World) (h : RowAt w v (ws.map vS)) (hs : s < 18446744073709551616) (hw : ∀ x ∈ ws, x < 18446744073709551616) (hl : ws.length ≤ 64) :
    Calls Try.prog 44 #[vS s, v] w fun e w' => e = .returned (vI (leastI s ws)) ∧ Fr (fun _ => False) w w' := by
  obtain ⟨ad, cap, rfl, h1⟩ := h
  simp only [List.length_map] at h1 ⊢
  obtain ⟨n, hn⟩ : ∃ n, n = ws.length := ⟨_, rfl⟩
  have HN : Hd (n = ws.length ∧ s < 18446744073709551616 ∧ ∀ x ∈ ws, x < 18446744073709551616) := ⟨hn, hs, hw⟩
  have H1 : Hd (∀ j (h : j < ws.length), ∃ k o, ad = some ⟨k, o, none⟩ ∧ w.cell? ⟨k, o + j, none⟩ = some (vS ws[j])) := fun j hj => by
    obtain ⟨k, o, e1, e3⟩ := h1 (by intro e; rw [List.map_eq_nil_iff] at e; subst e; simp at hj)
    exact ⟨k, o, e1, by rw [e3 j (by simpa using hj)]; simp⟩
  have HH : Hd (∀ (i : Nat) (W : World), i < 64 → Calls Try.prog 59 #[vS s, vI i] W fun e w' => e = .returned (.bool (s.testBit i)) ∧ w' = W) := fun i W hi => has_any s i W hs hi
  obtain ⟨L, hL⟩ : ∃ L, L = leastI s ws := ⟨_, rfl⟩
  have EL : Hd (L = leastI s ws) := hL
  rw [← hn] at hl ⊢
  rw [← hL]
  clear h1 hn hs hw hL
  go_enter Try.func44, Try.ntmps44
  go_wp2_with fail
  go_loopw [9] (fun v wr => ∃ k : Nat, v = vI k ∧ k ≤ n ∧ Hd (Fr (fun _ => False) w wr ∧ ∀ i, i < k → freeB s ws i = false)) (fun v _ => match v with | .int _ q => n - q.toNat | _ => 0)
  case atStart => exact ⟨0, rfl, by omega, Fr.refl _ _, fun i hi => absurd hi (by omega)⟩
  case round =>
    obtain ⟨k, rfl, hk, HR⟩ := hrel
    by_cases hlt : k < n
    · have k0 : (0 : Int) ≤ k := by omega
      have k1 : (k : Int) < n := by omega
      have hkl : k < ws.length := by rw [← HN.out.1]; exact hlt
      obtain ⟨g, o, rfl, hc⟩ := H1.out k hkl
      have x0 : wr.cell? ⟨g, o + k, none⟩ = some (vS ws[k]) := (HR.out.1.cell (cell_lt hc) (fun e => e)).trans hc
      obtain ⟨x, ex⟩ : ∃ x, x = ws[k] := ⟨_, rfl⟩
      rw [← ex] at x0
      have hx : x < 18446744073709551616 := by rw [ex]; exact HN.out.2.2 _ (List.getElem_mem hkl)
      have HX : Hd (ws.getD k 0 = x ∧ k < ws.length) := ⟨by rw [List.getD_eq_getElem?_getD, List.getElem?_eq_getElem hkl, ex]; rfl, hkl⟩
      have q1 : bits .and .u64 (s : Int) (x : Int) = ((s &&& x : Nat) : Int) := bits_and_u64_nat _ _ HN.out.2.1 hx
      have HC : Calls Try.prog 59 #[vS s, vI k] wr fun e w' => e = .returned (.bool (s.testBit k)) ∧ w' = wr := HH.out k wr (by omega)
      obtain ⟨B, hB⟩ : ∃ B, B = s.testBit k := ⟨_, rfl⟩
      have EB : Hd (B = s.testBit k) := hB
      rw [← hB] at HC
      obtain ⟨a, ha⟩ : ∃ a, a = s &&& x := ⟨_, rfl⟩
      have EA : Hd (a = s &&& x) := ha
      rw [← ha] at q1
      have HC2 : Hd (Calls Try.prog 59 #[vS s, vI k] wr fun e w' => e = .returned (.bool B) ∧ w' = wr) := HC
      clear hB ha hx ex hc hkl HC H1
      cases B
      · go_wp2_with (go_at_call 59; refine HC2.out.mono ?_; rintro _ w3 ⟨rfl, rfl⟩)
        refine ⟨⟨k + 1, by simp, by omega, HR.out.1, fun i hi => ?_⟩, by simp; omega⟩
        rcases Nat.lt_or_ge i k with h2 | h2
        · exact HR.out.2 i h2
        · have e : i = k := by omega
          subst e
          unfold freeB
          rw [← EB.out]; rfl
      · by_cases ha : a = 0
        · subst ha
          go_wp2_with (go_at_call 59; refine HC2.out.mono ?_; rintro _ w3 ⟨rfl, rfl⟩)
          go_ret
          refine ⟨?_, HR.out.1⟩
          have : leastX s ws = some k := leastX_some HX.out.2 (by unfold freeB; rw [← EB.out, HX.out.1, ← EA.out]; simp) HR.out.2
          rw [EL.out]
          unfold leastI
          rw [this]
          rfl
        · have ha2 : ¬ (a : Int) = 0 := by omega
          have ha3 : ((a : Int) == 0) = false := by simpa using ha
          go_wp2_with (go_at_call 59; refine HC2.out.mono ?_; rintro _ w3 ⟨rfl, rfl⟩)
          refine ⟨⟨k + 1, by simp, by omega, HR.out.1, fun i hi => ?_⟩, by simp; omega⟩
          rcases Nat.lt_or_ge i k with h2 | h2
          · exact HR.out.2 i h2
          · have e : i = k := by omega
            subst e
            unfold freeB
            rw [HX.out.1, ← EA.out]
            simp [ha]
    · have e : k = ws.length := by have := HN.out.1; omega
      have HE : Hd (L = -1) := by
        have : leastX s ws = none := leastX_none (fun i hi => HR.out.2 i (by omega))
        rw [EL.out]
        unfold leastI
        rw [this]
        rfl
      clear e
      go_wp2_with fail
      go_ret
      exact ⟨by rw [HE.out]; rfl, HR.out.1⟩
end Go.Proofs.Ytihicdbplmdjiaa
