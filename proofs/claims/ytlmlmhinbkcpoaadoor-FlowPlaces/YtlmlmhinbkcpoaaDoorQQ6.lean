import Derived.Test.YtlmlmhinbkcpoaaDoorQQ5
namespace Go.Proofs.YtlmlmhinbkcpoaaDoor
open Go.RowKit (wrap32 wrap64)
set_option linter.unusedVariables false
set_option linter.unusedSimpArgs false

theorem Tab.lt {w : World} (h : Tab w) : 1 < w.heap.size := by
  have := h 0 (by omega)
  unfold World.cell? at this
  rcases Nat.lt_or_ge 1 w.heap.size with hk | hk
  · exact hk
  · simp [Array.getElem?_eq_none hk] at this
theorem Tab.stay {w w' : World} (h : Tab w) (f : Fr (fun _ => False) w w') : Tab w' := h.fr f (fun e => e)

set_option maxRecDepth 100000 in
set_option maxHeartbeats 1000000 in
theorem right_one (H : Nat) (w : World) (h : P0 w H) (hT : Tab w) : Calls Tryd.prog 28 #[.agg #[vI 0, .slice (some ⟨H + 2, 0, none⟩) 1 1], vI 0] w fun e w' => e = .returned (.bool true) ∧ Fr (fun _ => False) w w' := by
  have hFa : Fr (fun _ => False) w (w.alloc (.cells #[vI 0, .slice (some ⟨H + 2, 0, none⟩) 1 1] 24)) := Fr.alloc (Fr.refl _ w) _
  have HFa : Hd (Fr (fun _ => False) w (w.alloc (.cells #[vI 0, .slice (some ⟨H + 2, 0, none⟩) 1 1] 24))) := hFa
  have HP : Hd (P0 (w.alloc (.cells #[vI 0, .slice (some ⟨H + 2, 0, none⟩) 1 1] 24)) H) := h.fr hFa
  have HT : Hd (Tab w) := hT
  clear h hFa hT
  go_enter Tryd.func28, Tryd.ntmps28
  go_wp2_with fail
  refine (show Calls Tryd.prog 44 #[.agg #[vI 0, .slice (some ⟨H + 2, 0, none⟩) 1 1], vI 0] (w.alloc (.cells #[vI 0, .slice (some ⟨H + 2, 0, none⟩) 1 1] 24)) _ from alone_one H _ HP.out).mono ?_
  rintro e w1 ⟨G, rfl, hfa, hF1⟩
  have HF1 : Hd (Fr (fun _ => False) w w1) := HFa.out.trans hF1
  have HA : Hd (FA w1 (.slice (some ⟨G, 0, none⟩) 1 1) [fZ]) := hfa
  have HT1 : Hd (Tab w1) := HT.out.stay HF1.out
  clear hfa hF1
  have hfine : FineP [fZ] := ⟨by simp, fun f hf => by
    simp at hf; subst hf
    exact ⟨by simp [fZ], fun c hc => by simp [fZ] at hc; subst hc; simp [cZ]⟩⟩
  go_wp2_with fail
  refine (show Calls Tryd.prog 43 #[.agg #[vI 0, .slice (some ⟨G, 0, none⟩) 1 1]] w1 _ from check_prog w1 0 [fZ] _ (HA.out.fl hfine (by omega)) HT1.out (by have := HT1.out.lt; omega)).mono ?_
  rintro e w2 ⟨rfl, hF2⟩
  rw [checkZ]
  have HF2 : Hd (Fr (fun _ => False) w w2) := HF1.out.trans hF2
  clear hF2
  go_wp2_with fail
  go_ret
  exact ⟨rfl, HF2.out⟩

set_option maxRecDepth 100000 in
set_option maxHeartbeats 1000000 in
theorem told_one (H : Nat) (sa : Option Addr) (sn sc : Nat) (w : World) (h : P0 w H) : Calls Tryd.prog 29 #[.agg #[vI 0, .slice (some ⟨H + 2, 0, none⟩) 1 1], vI 0, .slice sa sn sc] w fun e w' => e = .returned (.bool true) ∧ Fr (fun _ => False) w w' := by
  have hFa : Fr (fun _ => False) w (w.alloc (.cells #[vI 0, .slice (some ⟨H + 2, 0, none⟩) 1 1] 24)) := Fr.alloc (Fr.refl _ w) _
  have HFa : Hd (Fr (fun _ => False) w (w.alloc (.cells #[vI 0, .slice (some ⟨H + 2, 0, none⟩) 1 1] 24))) := hFa
  have HP : Hd (P0 (w.alloc (.cells #[vI 0, .slice (some ⟨H + 2, 0, none⟩) 1 1] 24)) H) := h.fr hFa
  have q3 : (w.alloc (.cells #[vI 0, .slice (some ⟨H + 2, 0, none⟩) 1 1] 24)).cell? ⟨H + 2, 3, none⟩ = some (.slice (some ⟨H + 1, 0, none⟩) 1 1) := by rw [cell_of0 HP.out.f]; rfl
  clear h hFa
  go_enter Tryd.func29, Tryd.ntmps29
  go_wp2_with fail
  clear q3
  generalize w.alloc (.cells #[vI 0, .slice (some ⟨H + 2, 0, none⟩) 1 1] 24) = wa at *
  go_loopw [16] (fun v wr => ∃ (k : Nat), v = .int .i64 k ∧ k ≤ 1 ∧ Hd (Fr (fun _ => False) wa wr)) (fun v _ => match v with | .int _ q => 1 - q.toNat | _ => 0)
  case atStart => exact ⟨0, rfl, by omega, Fr.refl _ _⟩
  case round =>
    obtain ⟨k, rfl, hk, HFr⟩ := hrel
    by_cases hlt : k < 1
    · obtain rfl : k = 0 := by omega
      have hi := (HP.out.fr HFr.out).i
      have c0 : wr.cell? ⟨H + 1, 0, none⟩ = some (vI 15) := by rw [cell_of0 hi]; rfl
      have c1 : wr.cell? ⟨H + 1, 1, none⟩ = some (vI 0) := by rw [cell_of0 hi]; rfl
      have c2 : wr.cell? ⟨H + 1, 2, none⟩ = some (vI 0) := by rw [cell_of0 hi]; rfl
      have c3 : wr.cell? ⟨H + 1, 3, none⟩ = some (vI 0) := by rw [cell_of0 hi]; rfl
      have c4 : wr.cell? ⟨H + 1, 4, none⟩ = some (vI 0) := by rw [cell_of0 hi]; rfl
      have c5 : wr.cell? ⟨H + 1, 5, none⟩ = some (.slice (some ⟨H, 0, none⟩) 1 1) := by rw [cell_of0 hi]; rfl
      have c6 : wr.cell? ⟨H + 1, 6, none⟩ = some (.slice none 0 0) := by rw [cell_of0 hi]; rfl
      clear hi
      go_wp2_with fail
      go_quiet (fail)
      go_wp2_with fail
      exact ⟨⟨1, by simp, by omega, ⟨HFr.out.os, HFr.out.tape, HFr.out.output, by simp; have := HFr.out.size; omega, fun k hk hS => (HFr.out.alloc _).block k hk hS⟩⟩, by simp⟩
    · have hke : k = 1 := by omega
      subst hke
      go_wp2_with fail
      go_ret
      exact ⟨rfl, HFa.out.trans HFr.out⟩

end Go.Proofs.YtlmlmhinbkcpoaaDoor
