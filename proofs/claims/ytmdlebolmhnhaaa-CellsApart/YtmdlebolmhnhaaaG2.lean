import Derived.Test.YtmdlebolmhnhaaaG1
namespace Go.Proofs.Ytmdlebolmhnhaaa
open Go.RowKit (wrap32 wrap64)
open Go.Maps (Keyed)
set_option linter.unusedVariables false
set_option linter.unusedSimpArgs false

theorem cell_lt0 {w : World} {k o : Nat} {u : Value} (h : w.cell? ⟨k, o, none⟩ = some u) : k < w.heap.size := by
  unfold World.cell? at h
  rcases Nat.lt_or_ge k w.heap.size with hk | hk
  · exact hk
  · simp [Array.getElem?_eq_none hk] at h

/-- Lists of numbers. -/
def ListsAt (w : World) (sv : Value) (zss : List (List Int)) : Prop :=
  ∃ a c, sv = .slice a zss.length c ∧ (zss ≠ [] → ∃ k o, a = some ⟨k, o, none⟩ ∧ ∀ j, j < zss.length → ∃ u, w.cell? ⟨k, o + j, none⟩ = some u ∧ IntsAt w.heap.size w u (zss[j]?.getD []))

set_option maxRecDepth 100000 in
set_option maxHeartbeats 1000000 in
/-- EqLists of two lists of the same lists. -/
theorem eqLists_same (v1 v2 : Value) (zss : List (List Int)) (w : World) (h1 : ListsAt w v1 zss) (h2 : ListsAt w v2 zss) (hz : zss.length ≤ 10000000000000) (hzz : ∀ zs ∈ zss, zs.length ≤ 10000000000000) :
    Calls Try.prog 25 #[v1, v2] w fun e w' => e = .returned (.bool true) ∧ Fr (fun _ => False) w w' := by
  obtain ⟨a1, c1, rfl, hc1⟩ := h1
  obtain ⟨a2, c2, rfl, hc2⟩ := h2
  have H1 : Hd _ := hc1
  have H2 : Hd _ := hc2
  have HZ : Hd _ := hzz
  clear hc1 hc2 hzz
  go_enter Try.func25, Try.ntmps25
  go_wp2_with fail
  go_loopw [5] (fun v wr => ∃ (k : Nat), v = .int .i64 k ∧ k ≤ zss.length ∧ Hd (Fr (fun _ => False) w wr)) (fun v _ => match v with | .int _ q => zss.length - q.toNat | _ => 0)
  case atStart => exact ⟨0, rfl, Nat.zero_le _, Fr.refl _ _⟩
  case round =>
    obtain ⟨k, rfl, hk, HF⟩ := hrel
    by_cases hlt : k < zss.length
    · have hne : zss ≠ [] := by intro e; simp [e] at hlt
      obtain ⟨k1, o1, rfl, g1⟩ := H1.out hne
      obtain ⟨k2, o2, rfl, g2⟩ := H2.out hne
      obtain ⟨u1, p1, i1⟩ := g1 k hlt
      obtain ⟨u2, p2, i2⟩ := g2 k hlt
      have q1 := (HF.out.cell (cell_lt0 p1) (fun h => h)).trans p1
      have q2 := (HF.out.cell (cell_lt0 p2) (fun h => h)).trans p2
      have hzl : (zss[k]?.getD []).length ≤ 10000000000000 := by
        rw [List.getElem?_eq_getElem hlt]
        exact HZ.out _ (List.getElem_mem hlt)
      have I1 : Hd (IntsAt wr.heap.size wr u1 (zss[k]?.getD [])) := IntsAt.fr i1 HF.out (fun _ _ h => h)
      have I2 : Hd (IntsAt wr.heap.size wr u2 (zss[k]?.getD [])) := IntsAt.fr i2 HF.out (fun _ _ h => h)
      generalize zss[k]?.getD [] = zs at *
      obtain ⟨x1, y1, rfl, -⟩ := IntsAt.shape I1.out
      obtain ⟨x2, y2, rfl, -⟩ := IntsAt.shape I2.out
      have hk0 : (0 : Int) ≤ k := by omega
      have hk1 : (k : Int) < zss.length := by omega
      clear g1 g2 i1 i2 p1 p2
      go_wp2_with fail
      refine wp_region_still_tail 8 mixed (by kernel_rfl) ?_
      simp only [List.take_succ_cons, List.take_zero, List.drop_succ_cons, List.drop_zero]
      repeat still_step
      refine wpStill_nil ?_
      go_wp2_with fail
      refine (eqInts_same _ _ zs wr.drew I1.out I2.out hzl).mono ?_
      rintro e w1 ⟨rfl, hF1⟩
      have HF1 : Hd _ := HF.out.drew.trans hF1
      go_wp2_with fail
      refine ⟨⟨k + 1, by simp, by omega, HF1.out⟩, by simp; omega⟩
    · have hke : k = zss.length := by omega
      subst hke
      go_wp2_with fail
      go_ret
      exact ⟨rfl, HF.out⟩

end Go.Proofs.Ytmdlebolmhnhaaa
