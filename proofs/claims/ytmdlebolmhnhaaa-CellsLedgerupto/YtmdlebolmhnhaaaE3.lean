import Derived.Test.YtmdlebolmhnhaaaE2
namespace Go.Proofs.Ytmdlebolmhnhaaa
open Go.RowKit (wrap32 wrap64)
open Go.Maps (Keyed)
set_option linter.unusedVariables false
set_option linter.unusedSimpArgs false

theorem IntsAt.shape {n0 : Nat} {w : World} {sv : Value} {zs : List Int} (h : IntsAt n0 w sv zs) : ∃ a c, sv = .slice a zs.length c ∧ (zs ≠ [] → ∃ k o, a = some ⟨k, o, none⟩ ∧ ∀ j, j < zs.length → w.cell? ⟨k, o + j, none⟩ = some (vI (zs[j]?.getD 0))) := by
  rcases h with ⟨a, c, rfl, rfl⟩ | ⟨k, o, c, rfl, -, hc⟩
  · exact ⟨a, c, rfl, fun h => absurd rfl h⟩
  · exact ⟨_, _, rfl, fun _ => ⟨k, o, rfl, hc⟩⟩

set_option maxRecDepth 100000 in
set_option maxHeartbeats 1000000 in
/-- EqInts of two lists of the same numbers. -/
theorem eqInts_same (v1 v2 : Value) (zs : List Int) (w : World) (h1 : IntsAt w.heap.size w v1 zs) (h2 : IntsAt w.heap.size w v2 zs) (hz : zs.length ≤ 10000000000000) :
    Calls Try.prog 21 #[v1, v2] w fun e w' => e = .returned (.bool true) ∧ Fr (fun _ => False) w w' := by
  obtain ⟨a1, c1, rfl, hc1⟩ := h1.shape
  obtain ⟨a2, c2, rfl, hc2⟩ := h2.shape
  have H1 : Hd _ := hc1
  have H2 : Hd _ := hc2
  clear h1 h2 hc1 hc2
  go_enter Try.func21, Try.ntmps21
  go_wp2_with fail
  go_loopw [5] (fun v wr => ∃ (k : Nat), v = .int .i64 k ∧ k ≤ zs.length ∧ Hd (Fr (fun _ => False) w wr) ∧ Hd (∀ p : Addr, wr.cell? p = w.cell? p)) (fun v _ => match v with | .int _ q => zs.length - q.toNat | _ => 0)
  case atStart => exact ⟨0, rfl, Nat.zero_le _, Fr.refl _ _, fun _ => rfl⟩
  case round =>
    obtain ⟨k, rfl, hk, HF, HC⟩ := hrel
    by_cases hlt : k < zs.length
    · have hne : zs ≠ [] := by intro e; simp [e] at hlt
      obtain ⟨k1, o1, rfl, g1⟩ := H1.out hne
      obtain ⟨k2, o2, rfl, g2⟩ := H2.out hne
      have q1 := (HC.out ⟨k1, o1 + k, none⟩).trans (g1 k hlt)
      have q2 := (HC.out ⟨k2, o2 + k, none⟩).trans (g2 k hlt)
      generalize zs[k]?.getD 0 = z at *
      have hk0 : (0 : Int) ≤ k := by omega
      have hk1 : (k : Int) < zs.length := by omega
      clear g1 g2
      go_wp2_with fail
      refine wp_region_still_tail 8 mixed (by kernel_rfl) ?_
      simp only [List.take_succ_cons, List.take_zero, List.drop_succ_cons, List.drop_zero]
      repeat still_step
      refine wpStill_nil ?_
      go_wp2_with fail
      refine ⟨⟨k + 1, by simp; try omega, by omega, HF.out.drew, HC.out⟩, by simp; try omega⟩
    · have hke : k = zs.length := by omega
      subst hke
      go_wp2_with fail
      go_ret
      exact ⟨rfl, HF.out⟩

end Go.Proofs.Ytmdlebolmhnhaaa
