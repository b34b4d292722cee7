import Derived.Test.YtkkfiipnpdlkeaaQD1
namespace Go.Proofs.Ytkkfiipnpdlkeaa
open Go.RowKit (wrap32 wrap64)
open Go.MuLone
set_option linter.unusedVariables false
set_option linter.unusedSimpArgs false

set_option maxRecDepth 100000 in
set_option maxHeartbeats 2000000 in
/-- EqInts of the same numbers. -/
theorem eqInts_same (v1 v2 : Value) (zs : List Int) (B1 B2 : Nat) (w : World) (h1 : IntsAt w B1 v1 zs) (h2 : IntsAt w B2 v2 zs) (hB1 : B1 ≤ w.heap.size) (hB2 : B2 ≤ w.heap.size) (hl : zs.length ≤ 100000000000000) :
    Calls Try.prog 13 #[v1, v2] w fun e w' => e = .returned (.bool true) ∧ Fr (fun _ => False) w w' := by
  obtain ⟨a1, c1, rfl, h1⟩ := h1
  obtain ⟨a2, c2, rfl, h2⟩ := h2
  obtain ⟨n, hn⟩ : ∃ n, n = zs.length := ⟨_, rfl⟩
  have HN : Hd (n = zs.length) := hn
  have HL : Hd (zs.length ≤ 100000000000000) := hl
  have HB1 : Hd (B1 ≤ w.heap.size) := hB1
  have HB2 : Hd (B2 ≤ w.heap.size) := hB2
  have H1 : Hd (zs ≠ [] → ∃ k o, a1 = some ⟨k, o, none⟩ ∧ k < B1 ∧ ∀ j (h : j < zs.length), w.cell? ⟨k, o + j, none⟩ = some (vI zs[j])) := h1
  have H2 : Hd (zs ≠ [] → ∃ k o, a2 = some ⟨k, o, none⟩ ∧ k < B2 ∧ ∀ j (h : j < zs.length), w.cell? ⟨k, o + j, none⟩ = some (vI zs[j])) := h2
  rw [← hn]
  clear h1 h2 hn hl hB1 hB2
  go_enter Try.func13, Try.ntmps13
  go_wp2_with fail
  go_loopw [5] (fun v wr => ∃ i : Nat, v = .int .i64 i ∧ i ≤ n ∧ Hd (Fr (fun _ => False) w wr)) (fun v _ => match v with | .int _ q => n - q.toNat | _ => 0)
  case atStart => exact ⟨0, rfl, by omega, Fr.refl _ _⟩
  case round =>
    obtain ⟨i, rfl, hi, HF⟩ := hrel
    by_cases hlt : i < n
    · have hlt' : (i : Int) < n := by omega
      have h0 : (0 : Int) ≤ i := by omega
      have hz := HN.out
      have hll := HL.out
      have hw : wrap64 ((i : Int) + 1) = ((i + 1 : Nat) : Int) := by rw [w64 (by omega) (by omega)]; omega
      have hzl : i < zs.length := by omega
      have hne : zs ≠ [] := by rintro rfl; simp at hzl
      obtain ⟨k1, o1, rfl, hk1, hc1⟩ := H1.out hne
      obtain ⟨k2, o2, rfl, hk2, hc2⟩ := H2.out hne
      have d1 : wr.cell? ⟨k1, o1 + i, none⟩ = some (vI zs[i]) := (HF.out.cell (Nat.lt_of_lt_of_le hk1 HB1.out) (fun h => h)).trans (hc1 i hzl)
      have d2 : wr.cell? ⟨k2, o2 + i, none⟩ = some (vI zs[i]) := (HF.out.cell (Nat.lt_of_lt_of_le hk2 HB2.out) (fun h => h)).trans (hc2 i hzl)
      obtain ⟨x, hx⟩ : ∃ x, x = zs[i] := ⟨_, rfl⟩
      rw [← hx] at d1 d2
      clear hz hll hzl hne hc1 hc2 hx H1 H2
      go_wp2_with fail
      go_region
      all_goals go_wp2_with fail
      all_goals exact ⟨⟨i + 1, by simp [hw], by omega, HF.out.drew⟩, by simp [hw]; omega⟩
    · have hlt' : decide (i < n) = false := by simp; omega
      clear hi
      go_wp2_with fail
      go_ret
      exact ⟨rfl, HF.out⟩
end Go.Proofs.Ytkkfiipnpdlkeaa
