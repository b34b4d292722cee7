import Derived.Test.YtihicdbplmdjiaaQA1
namespace Go.Proofs.Ytihicdbplmdjiaa
open Go.RowKit (wrap32 wrap64)
set_option linter.unusedVariables false
set_option linter.unusedSimpArgs false

/-! ### the search of a key -/
theorem nan69 (x : Int) (w : World) : Calls Try.prog 69 #[vI x] w fun e w' => e = .returned (.bool false) ∧ w' = w := by
  go_enter Try.func69, Try.ntmps69
  go_wp2
  go_ret
  exact ⟨by simp, rfl⟩
theorem nan68 (x : Int) (w : World) : Calls Try.prog 68 #[vI x] w fun e w' => e = .returned (.bool false) ∧ w' = w := by
  go_enter Try.func68, Try.ntmps68
  go_wp2
  go_ret
  exact ⟨by simp, rfl⟩
set_option maxHeartbeats 1000000 in
theorem less67 (x y : Int) (w : World) : Calls Try.prog 67 #[vI x, vI y] w fun e w' => e = .returned (.bool (decide (x < y))) ∧ w' = w := by
  go_enter Try.func67, Try.ntmps67
  go_wp2_with (go_at_call 69; refine (nan69 _ _).mono ?_; rintro e w' ⟨rfl, rfl⟩)
  go_ret
  exact ⟨rfl, rfl⟩

/-- Each key is below the next. -/
def Rises (l : List Int) : Prop := ∀ i j (hj : j < l.length), (hi : i < j) → l[i] < l[j]

set_option maxRecDepth 100000 in
set_option maxHeartbeats 4000000 in
theorem search_any (v : Value) (zs : List Int) (x : Int) (w : World) (h : RowAt w v (zs.map vI)) (hs : Rises zs) (hl : zs.length ≤ 1000000000000000000) :
    Calls Try.prog 66 #[v, vI x] w fun e w' => ∃ p : Int, e = .returned (.tuple #[vI p, .bool (decide (x ∈ zs))]) ∧ Fr (fun _ => False) w w' := by
  obtain ⟨ad, cap, rfl, h1⟩ := h
  simp only [List.length_map] at h1 ⊢
  obtain ⟨n, hn⟩ : ∃ n, n = zs.length := ⟨_, rfl⟩
  have HN : Hd (n = zs.length ∧ Rises zs) := ⟨hn, hs⟩
  have H1 : Hd (0 < zs.length → ∃ k o, ad = some ⟨k, o, none⟩ ∧ ∀ j (h : j < zs.length), w.cell? ⟨k, o + j, none⟩ = some (vI zs[j])) := fun hz => by
    obtain ⟨k, o, e1, e3⟩ := h1 (by intro e; rw [List.map_eq_nil_iff] at e; subst e; simp at hz)
    exact ⟨k, o, e1, fun j hj => by rw [e3 j (by simpa using hj)]; simp⟩
  rw [← hn] at hl ⊢
  clear h1 hn hs
  go_enter Try.func66, Try.ntmps66
  go_wp2_with fail
  go_loopw [7, 8] (fun v7 v8 wr => ∃ i j : Nat, v7 = vI i ∧ v8 = vI j ∧ i ≤ j ∧ j ≤ n ∧ Hd (Fr (fun _ => False) w wr ∧ (∀ t (h : t < zs.length), t < i → zs[t] < x) ∧ ∀ t (h : t < zs.length), j ≤ t → x ≤ zs[t])) (fun v7 v8 _ => match v7, v8 with | .int _ a, .int _ b => b.toNat - a.toNat | _, _ => 0)
  case atStart => exact ⟨0, n, rfl, rfl, by omega, by omega, Fr.refl _ _, fun t _ ht => absurd ht (by omega), fun t h1 h2 => absurd h1 (by have := HN.out.1; omega)⟩
  case round =>
    obtain ⟨i, j, rfl, rfl, hij, hj, HF⟩ := hrel
    by_cases hlt : i < j
    · have hm : (i + j) / 2 < zs.length := by have := HN.out.1; omega
      obtain ⟨k1, o1, rfl, hc1⟩ := H1.out (by omega)
      have d1 : wr.cell? ⟨k1, o1 + (i + j) / 2, none⟩ = some (vI zs[(i + j) / 2]) := (HF.out.1.cell (cell_lt (hc1 _ hm)) (fun h => h)).trans (hc1 _ hm)
      obtain ⟨y, hy⟩ : ∃ y, y = zs[(i + j) / 2] := ⟨_, rfl⟩
      rw [← hy] at d1
      have HY : Hd (∃ h : (i + j) / 2 < zs.length, y = zs[(i + j) / 2]) := ⟨hm, hy⟩
      clear hc1 H1 hm hy
      by_cases hyx : y < x
      · go_wp2_with (go_at_call 67; refine (less67 _ _ _).mono ?_; rintro e w' ⟨rfl, rfl⟩)
        refine ⟨⟨(i + j) / 2 + 1, j, by rw [show ((i : Int) + (j : Int)) / 2 + 1 = (((i + j) / 2 + 1 : Nat) : Int) by omega], rfl, by omega, hj, HF.out.1, fun t h ht => ?_, HF.out.2.2⟩, ?_⟩
        · obtain ⟨hm, hy⟩ := HY.out
          rcases Nat.lt_or_ge t ((i + j) / 2) with h2 | h2
          · have := HN.out.2 t ((i + j) / 2) (by have := HN.out.1; omega) h2
            omega
          · have e : t = (i + j) / 2 := by omega
            subst e
            omega
        · simp
          omega
      · go_wp2_with (go_at_call 67; refine (less67 _ _ _).mono ?_; rintro e w' ⟨rfl, rfl⟩)
        refine ⟨⟨i, (i + j) / 2, rfl, by rw [show ((i : Int) + (j : Int)) / 2 = (((i + j) / 2 : Nat) : Int) by omega], by omega, by omega, HF.out.1, HF.out.2.1, fun t h ht => ?_⟩, ?_⟩
        · obtain ⟨hm, hy⟩ := HY.out
          rcases Nat.lt_or_ge ((i + j) / 2) t with h2 | h2
          · have := HN.out.2 ((i + j) / 2) t h h2
            omega
          · have e : t = (i + j) / 2 := by omega
            subst e
            omega
        · simp
          omega
    · have e1 : i = j := by omega
      subst e1
      by_cases hin : i < n
      · have hm : i < zs.length := by have := HN.out.1; omega
        obtain ⟨k1, o1, rfl, hc1⟩ := H1.out (by omega)
        have d1 : wr.cell? ⟨k1, o1 + i, none⟩ = some (vI zs[i]) := (HF.out.1.cell (cell_lt (hc1 _ hm)) (fun h => h)).trans (hc1 _ hm)
        have HX : Hd (decide (zs[i] = x) = decide (x ∈ zs)) := by
          show decide (zs[i] = x) = decide (x ∈ zs)
          refine decide_eq_decide.2 ⟨fun e => e ▸ List.getElem_mem hm, fun e => ?_⟩
          obtain ⟨t, ht, e⟩ := List.mem_iff_getElem.1 e
          rcases Nat.lt_trichotomy t i with h2 | h2 | h2
          · have := HF.out.2.1 t ht h2
            omega
          · subst h2
            exact e
          · have := HF.out.2.2 i hm (by omega)
            have := HN.out.2 i t ht h2
            omega
        obtain ⟨y, hy⟩ : ∃ y, y = zs[i] := ⟨_, rfl⟩
        rw [← hy] at d1 HX
        clear hc1 H1 hm hy
        by_cases hyx : y = x
        · go_wp2_with fail
          go_ret2
          refine ⟨i, by rw [← HX.out]; simp [hyx], HF.out.1⟩
        · go_wp2_with (go_at_call 68; refine (nan68 _ _).mono ?_; rintro e w' ⟨rfl, rfl⟩)
          go_ret2
          refine ⟨i, by rw [← HX.out]; simp [hyx], HF.out.1⟩
      · have HX : Hd (decide (x ∈ zs) = false) := by
          show decide (x ∈ zs) = false
          refine decide_eq_false (fun e => ?_)
          obtain ⟨t, ht, e⟩ := List.mem_iff_getElem.1 e
          have := HF.out.2.1 t ht (by have := HN.out.1; omega)
          omega
        go_wp2_with fail
        go_ret2
        exact ⟨i, by rw [HX.out]; rfl, HF.out.1⟩
end Go.Proofs.Ytihicdbplmdjiaa
