import Derived.Test.YtdkijecnnmncnaaQA7J
namespace Go.Proofs.Ytdkijecnnmncnaa
open Go.RowKit (wrap32 wrap64)
set_option linter.unusedVariables false
set_option linter.unusedSimpArgs false

/-! ### summaries -/
/-- Lists of numbers that lie somewhere. -/
def LA (w : World) (v : Value) (zss : List (List Int)) : Prop :=
  ∃ a c, v = .slice a zss.length c ∧ (zss ≠ [] → ∃ k o, a = some ⟨k, o, none⟩ ∧ k < w.heap.size ∧ ∀ j (h : j < zss.length), ∃ u, w.cell? ⟨k, o + j, none⟩ = some u ∧ IA w u zss[j])
theorem LA.stay {w w' : World} {v : Value} {zss : List (List Int)} (h : LA w v zss) (f : Fr (fun _ => False) w w') : LA w' v zss := by
  obtain ⟨a, c, rfl, h⟩ := h
  refine ⟨a, c, rfl, fun hne => ?_⟩
  obtain ⟨k, o, rfl, hk, hc⟩ := h hne
  refine ⟨k, o, rfl, Nat.lt_of_lt_of_le hk f.size, fun j hj => ?_⟩
  obtain ⟨u, h1, h2⟩ := hc j hj
  exact ⟨u, (f.cell hk (fun e => e)).trans h1, h2.stay f⟩

/-- The same, all of it from block B on. -/
def LAB (w : World) (B : Nat) (v : Value) (zss : List (List Int)) : Prop :=
  ∃ a c, v = .slice a zss.length c ∧ (zss ≠ [] → ∃ k o, a = some ⟨k, o, none⟩ ∧ B ≤ k ∧ k < w.heap.size ∧ ∀ j (h : j < zss.length), ∃ u, w.cell? ⟨k, o + j, none⟩ = some u ∧ IA w u zss[j] ∧ ∀ b, u.ownBlock = some b → B ≤ b)
theorem LAB.la {w : World} {B : Nat} {v : Value} {zss : List (List Int)} (h : LAB w B v zss) : LA w v zss := by
  obtain ⟨a, c, rfl, h⟩ := h
  refine ⟨a, c, rfl, fun hne => ?_⟩
  obtain ⟨k, o, rfl, -, hk, hc⟩ := h hne
  refine ⟨k, o, rfl, hk, fun j hj => ?_⟩
  obtain ⟨u, h1, h2, -⟩ := hc j hj
  exact ⟨u, h1, h2⟩
theorem LAB.fr {S : Nat → Prop} {w w' : World} {B : Nat} {v : Value} {zss : List (List Int)} (h : LAB w B v zss) (f : Fr S w w') (hS : ∀ k, B ≤ k → ¬ S k) : LAB w' B v zss := by
  obtain ⟨a, c, rfl, h⟩ := h
  refine ⟨a, c, rfl, fun hne => ?_⟩
  obtain ⟨k, o, rfl, hB, hk, hc⟩ := h hne
  refine ⟨k, o, rfl, hB, Nat.lt_of_lt_of_le hk f.size, fun j hj => ?_⟩
  obtain ⟨u, h1, h2, h3⟩ := hc j hj
  exact ⟨u, (f.cell hk (hS k hB)).trans h1, h2.fr f (fun k e => hS k (h3 k e)), h3⟩

theorem nones_any (n : Nat) (hn : n ≤ 8) (w : World) :
    Calls Try.prog 14 #[vI n] w fun e w' => ∃ g, e = .returned (.slice (some ⟨g, 0, none⟩) n n) ∧ w.heap.size ≤ g ∧ w'.heap[g]? = some (.cells (List.replicate n (vI 9)).toArray 3) ∧ Fr (fun _ => False) w w' := by
  have HF : Hd (Fr (fun _ => False) w (w.alloc (.cells #[vI 9] 3))) := Fr.alloc (Fr.refl _ w) _
  have hx : (w.alloc (.cells #[vI 9] 3)).cell? ⟨w.heap.size, 0, none⟩ = some (vI 9) := by rw [cell_of (heap_new w _)]; rfl
  have HX : Hd _ := hx
  clear hx
  go_enter Try.func14, Try.ntmps14
  go_wp2_with fail
  refine (show Calls Try.prog 21 #[.slice (some ⟨w.heap.size, 0, none⟩) 1 1, .int .i64 n] (w.alloc (.cells #[vI 9] 3)) _ from repeat_nine w.heap.size n (by omega) _ HX.out).mono ?_
  rintro e w1 ⟨rfl, hg, hF1⟩
  have HG : Hd (w1.heap[w.heap.size + 1]? = some (.cells (List.replicate n (vI 9)).toArray 3)) := by unfold Hd; simpa using hg
  have HF1 : Hd (Fr (fun _ => False) w w1) := HF.out.trans hF1
  clear hg hF1
  go_wp2_with fail
  go_ret
  exact ⟨_, rfl, Nat.le_succ _, HG.out, HF1.out⟩
theorem nines_ia {w : World} {g n : Nat} (h : w.heap[g]? = some (.cells (List.replicate n (vI 9)).toArray 3)) : IA w (.slice (some ⟨g, 0, none⟩) n n) (List.replicate n 9) := by
  refine ⟨_, n, by rw [List.length_replicate], fun _ => ⟨g, 0, rfl, heap_lt h, fun j hj => ?_⟩⟩
  have hj' : j < n := by simpa using hj
  rw [Nat.zero_add, cell_of h]
  simp [hj']

set_option maxRecDepth 100000 in
set_option maxHeartbeats 1000000 in
theorem eqLists_same (v1 v2 : Value) (zss : List (List Int)) (w : World) (h1 : LA w v1 zss) (h2 : LA w v2 zss) (hz : zss.length ≤ 10000000000000) (hzz : ∀ zs ∈ zss, zs.length ≤ 10000000000000) :
    Calls Try.prog 16 #[v1, v2] w fun e w' => e = .returned (.bool true) ∧ Fr (fun _ => False) w w' := by
  obtain ⟨a1, c1, rfl, hc1⟩ := h1
  obtain ⟨a2, c2, rfl, hc2⟩ := h2
  have H1 : Hd (zss ≠ [] → _) := hc1
  have H2 : Hd (zss ≠ [] → _) := hc2
  have HZ : Hd (∀ zs ∈ zss, zs.length ≤ 10000000000000) := hzz
  clear hc1 hc2 hzz
  go_enter Try.func16, Try.ntmps16
  go_wp2_with fail
  go_loopw [5] (fun v wr => ∃ (k : Nat), v = .int .i64 k ∧ k ≤ zss.length ∧ Hd (Fr (fun _ => False) w wr)) (fun v _ => match v with | .int _ q => zss.length - q.toNat | _ => 0)
  case atStart => exact ⟨0, rfl, Nat.zero_le _, Fr.refl _ _⟩
  case round =>
    obtain ⟨k, rfl, hk, HF⟩ := hrel
    by_cases hlt : k < zss.length
    · have hne : zss ≠ [] := by intro e; simp [e] at hlt
      obtain ⟨k1, o1, rfl, hk1', g1⟩ := H1.out hne
      obtain ⟨k2, o2, rfl, hk2', g2⟩ := H2.out hne
      obtain ⟨u1, p1, i1⟩ := g1 k hlt
      obtain ⟨u2, p2, i2⟩ := g2 k hlt
      have q1 := (HF.out.cell hk1' (fun h => h)).trans p1
      have q2 := (HF.out.cell hk2' (fun h => h)).trans p2
      have hzl : zss[k].length ≤ 10000000000000 := HZ.out _ (List.getElem_mem hlt)
      have I1 : Hd (IA wr u1 zss[k]) := i1.stay HF.out
      have I2 : Hd (IA wr u2 zss[k]) := i2.stay HF.out
      generalize zss[k] = zs at *
      obtain ⟨x1, y1, rfl, -⟩ := I1.out
      obtain ⟨x2, y2, rfl, -⟩ := I2.out
      have hk0 : (0 : Int) ≤ k := by omega
      have hk1 : (k : Int) < zss.length := by omega
      clear g1 g2 i1 i2 p1 p2
      go_wp2_with fail
      refine wp_region_still_tail 8 mixed (by kernel_rfl) ?_
      simp only [List.take_succ_cons, List.take_zero, List.drop_succ_cons, List.drop_zero]
      repeat still_step
      refine wpStill_nil ?_
      go_wp2_with fail
      refine (show Calls Try.prog 15 #[.slice x1 zs.length y1, .slice x2 zs.length y2] wr.drew _ from eqInts_same _ _ zs wr.drew I1.out I2.out (by omega)).mono ?_
      rintro e w1 ⟨rfl, hF1⟩
      have HF1 : Hd (Fr (fun _ => False) w w1) := HF.out.drew.trans hF1
      clear hF1
      go_wp2_with fail
      refine ⟨⟨k + 1, by simp, by omega, HF1.out⟩, by simp; omega⟩
    · have hke : k = zss.length := by omega
      subst hke
      go_wp2_with fail
      go_ret
      exact ⟨rfl, HF.out⟩

set_option maxRecDepth 100000 in
set_option maxHeartbeats 1000000 in
theorem eqSummary_same (x1 y1 x2 y2 : Value) (zs : List Int) (zss : List (List Int)) (w : World) (h1 : IA w x1 zs) (h2 : LA w y1 zss) (h3 : IA w x2 zs) (h4 : LA w y2 zss) (hz : zs.length ≤ 10000000000000) (hzs : zss.length ≤ 10000000000000) (hzz : ∀ zs ∈ zss, zs.length ≤ 10000000000000) :
    Calls Try.prog 8 #[.agg #[x1, y1], .agg #[x2, y2]] w fun e w' => e = .returned (.bool true) ∧ Fr (fun _ => False) w w' := by
  obtain ⟨a1, b1, e1, -⟩ := id h1
  obtain ⟨a2, b2, e2, -⟩ := id h2
  obtain ⟨a3, b3, e3, -⟩ := id h3
  obtain ⟨a4, b4, e4, -⟩ := id h4
  obtain ⟨wa, hwa⟩ : ∃ wa, wa = (w.alloc (.cells #[x1, y1] 36)).alloc (.cells #[x2, y2] 36) := ⟨_, rfl⟩
  have hF : Fr (fun _ => False) w wa := by rw [hwa]; exact Fr.alloc (Fr.alloc (Fr.refl _ w) _) _
  have b1' : wa.heap[w.heap.size]? = some (.cells #[x1, y1] 36) := by
    rw [hwa, Go.RowKit.Below.heap_alloc _ _ _ (by simp)]; exact heap_new w _
  have b2' : wa.heap[w.heap.size + 1]? = some (.cells #[x2, y2] 36) := by
    rw [hwa, show w.heap.size + 1 = (w.alloc (.cells #[x1, y1] 36)).heap.size by simp]; exact heap_new _ _
  have HWA : Hd (wa = (w.alloc (.cells #[x1, y1] 36)).alloc (.cells #[x2, y2] 36)) := hwa
  have HF : Hd (Fr (fun _ => False) w wa) := hF
  have G1 : Hd (IA wa x1 zs) := h1.stay hF
  have G2 : Hd (LA wa y1 zss) := h2.stay hF
  have G3 : Hd (IA wa x2 zs) := h3.stay hF
  have G4 : Hd (LA wa y2 zss) := h4.stay hF
  obtain ⟨H, hH⟩ : ∃ H, H = w.heap.size := ⟨_, rfl⟩
  have HH : Hd (H = w.heap.size) := hH
  rw [← hH] at b1' b2'
  have B1 : Hd (wa.heap[H]? = some (.cells #[x1, y1] 36)) := b1'
  have B2 : Hd (wa.heap[H + 1]? = some (.cells #[x2, y2] 36)) := b2'
  have HZZ : Hd (∀ zs ∈ zss, zs.length ≤ 10000000000000) := hzz
  have c0 : wa.cell? ⟨H, 0, none⟩ = some x1 := by rw [cell_of b1']; rfl
  have d0 : wa.cell? ⟨H + 1, 0, none⟩ = some x2 := by rw [cell_of b2']; rfl
  subst e1; subst e2; subst e3; subst e4
  clear h1 h2 h3 h4 hF hwa hH b1' b2' hzz
  go_enter Try.func8, Try.ntmps8
  go_upto_region 1 with fail
  rw [← HWA.out, ← HH.out]
  clear HWA
  go_wp2_with fail
  refine (show Calls Try.prog 15 #[.slice a1 zs.length b1, .slice a3 zs.length b3] wa _ from eqInts_same _ _ zs wa G1.out G3.out (by omega)).mono ?_
  rintro e w1 ⟨rfl, hF1⟩
  have G2' : Hd (LA w1 (.slice a2 zss.length b2) zss) := LA.stay G2.out hF1
  have G4' : Hd (LA w1 (.slice a4 zss.length b4) zss) := LA.stay G4.out hF1
  have p6 : w1.cell? ⟨H, 1, none⟩ = some (.slice a2 zss.length b2) := by rw [hF1.cell (heap_lt B1.out) (fun e => e), cell_of B1.out]; rfl
  have r6 : w1.cell? ⟨H + 1, 1, none⟩ = some (.slice a4 zss.length b4) := by rw [hF1.cell (heap_lt B2.out) (fun e => e), cell_of B2.out]; rfl
  have HF1 : Hd (Fr (fun _ => False) w w1) := HF.out.trans hF1
  clear hF1 c0 d0 B1 B2
  go_wp2_with fail
  refine (show Calls Try.prog 16 #[.slice a2 zss.length b2, .slice a4 zss.length b4] w1 _ from eqLists_same _ _ zss w1 G2'.out G4'.out hzs HZZ.out).mono ?_
  rintro e w2 ⟨rfl, hF2⟩
  have HF2 : Hd (Fr (fun _ => False) w w2) := HF1.out.trans hF2
  clear hF2
  go_wp2_with fail
  go_ret
  exact ⟨rfl, HF2.out⟩

end Go.Proofs.Ytdkijecnnmncnaa
