import Derived.Test.YtihicdbplmdjiaaGreatQA1J
set_option linter.unusedVariables false
set_option linter.unusedSimpArgs false
namespace Go.Proofs.YtihicdbplmdjiaaGreat
open Go.RowKit (wrap32 wrap64)

/-! ### which of two calls must stand ahead -/
def makesB (c : Cl) : Bool := decide (c.kd = 1) && c.R.r.ok
def findsB (c : Cl) (key : Int) : Bool := if c.kd = 3 then decide (key ∈ c.R.r.keys) else decide (c.ky = key) && (c.R.r.ok == decide (c.kd = 2))
def missesB (c : Cl) (key : Int) : Bool := (decide (c.kd = 3) || decide (c.ky = key)) && !findsB c key
def precB (c d : Cl) : Bool := decide (c.e < d.b) || (makesB c && findsB d c.ky) || (makesB d && missesB c d.ky)
theorem nine {W : World} {b : Nat} {t : TypeId} {x0 x1 x2 x3 x4 x5 x6 x7 x8 : Value} (h : W.heap[b]? = some (.cells #[x0, x1, x2, x3, x4, x5, x6, x7, x8] t)) :
    W.cell? ⟨b, 0, none⟩ = some x0 ∧ W.cell? ⟨b, 1, none⟩ = some x1 ∧ W.cell? ⟨b, 2, none⟩ = some x2 ∧ W.cell? ⟨b, 3, none⟩ = some x3 ∧ W.cell? ⟨b, 4, none⟩ = some x4 ∧ W.cell? ⟨b, 5, none⟩ = some x5 ∧ W.cell? ⟨b, 6, none⟩ = some x6 ∧ W.cell? ⟨b, 7, none⟩ = some x7 ∧ W.cell? ⟨b, 8, none⟩ = some x8 :=
  ⟨cell_of h 0, cell_of h 1, cell_of h 2, cell_of h 3, cell_of h 4, cell_of h 5, cell_of h 6, cell_of h 7, cell_of h 8⟩
/-- What is known of a call of a history. -/
structure CFine (c : Cl) : Prop where
  rises : c.kd = 3 → Rises c.R.r.keys
  len : c.R.r.keys.length ≤ 1000000000000000000
  vlen : c.kd = 3 → c.R.r.vals.length = c.R.r.keys.length

set_option maxHeartbeats 1000000 in
theorem makes_any (c : Cl) (w : World) : Calls Tryz.prog 32 #[c.V] w fun e w' => e = .returned (.bool (makesB c)) ∧ Fr (fun _ => False) w w' := by
  unfold Cl.V c9 makesB
  obtain ⟨b, en, kd, ky, v, ⟨⟨ok, val, ks, vs⟩, kv, vv⟩⟩ := c
  simp only
  have HF : Hd (Fr (fun _ => False) w (w.alloc (.cells #[vI b, vI en, vI kd, vI ky, .string v, .bool ok, .string val, kv, vv] 87))) := (Fr.refl _ w).alloc _
  by_cases hk : kd = 1
  · subst hk
    go_enter Tryz.func32, Tryz.ntmps32
    go_wp2_with fail
    go_ret
    exact ⟨by simp, HF.out⟩
  · go_enter Tryz.func32, Tryz.ntmps32
    go_wp2_with fail
    go_ret
    exact ⟨by simp [hk], HF.out⟩

set_option maxHeartbeats 4000000 in
theorem finds_any (c : Cl) (key : Int) (w : World) (h : c.R.At w) (hf : CFine c) : Calls Tryz.prog 77 #[c.V, vI key] w fun e w' => e = .returned (.bool (findsB c key)) ∧ Fr (fun _ => False) w w' := by
  unfold Cl.V c9 findsB
  obtain ⟨b, en, kd, ky, v, ⟨⟨ok, val, ks, vs⟩, kv, vv⟩⟩ := c
  simp only
  have HF : Hd (Fr (fun _ => False) w (w.alloc (.cells #[vI b, vI en, vI kd, vI ky, .string v, .bool ok, .string val, kv, vv] 87))) := (Fr.refl _ w).alloc _
  by_cases hk : kd = 3
  · subst hk
    have HS : Hd (∀ W, Fr (fun _ => False) w W → Calls Tryz.prog 88 #[kv, vI key] W fun e w' => ∃ p : Int, e = .returned (.tuple #[vI p, .bool (decide (key ∈ ks))]) ∧ Fr (fun _ => False) W w') := fun W f =>
      search_any kv ks key W ((h.fr f).1) (hf.rises rfl) hf.len
    have hc := HS.out _ HF.out
    clear h hf HS
    go_enter Tryz.func77, Tryz.ntmps77
    go_wp2_with (go_at_call 88; refine hc.mono ?_; rintro _ w3 ⟨p, rfl, hf3⟩; have HF3 : Hd _ := hf3; clear hf3)
    go_ret
    exact ⟨by simp, HF.out.trans HF3.out⟩
  · clear h hf
    by_cases hk2 : ky = key
    · subst hk2
      go_enter Tryz.func77, Tryz.ntmps77
      go_wp2_with fail
      go_ret
      refine ⟨?_, HF.out⟩
      by_cases h2 : kd = 2 <;> cases ok <;> simp [hk, h2]
    · go_enter Tryz.func77, Tryz.ntmps77
      go_wp2_with fail
      go_ret
      exact ⟨by simp [hk, hk2], HF.out⟩

set_option maxHeartbeats 4000000 in
theorem misses_any (c : Cl) (key : Int) (w : World) (h : c.R.At w) (hf : CFine c) : Calls Tryz.prog 78 #[c.V, vI key] w fun e w' => e = .returned (.bool (missesB c key)) ∧ Fr (fun _ => False) w w' := by
  have HS : Hd (∀ W, Fr (fun _ => False) w W → Calls Tryz.prog 77 #[c.V, vI key] W fun e w' => e = .returned (.bool (findsB c key)) ∧ Fr (fun _ => False) W w') := fun W f =>
    finds_any c key W (h.fr f) hf
  clear h hf
  unfold missesB
  obtain ⟨B, hB⟩ : ∃ B, B = findsB c key := ⟨_, rfl⟩
  rw [← hB] at HS ⊢
  clear hB
  unfold Cl.V c9 at *
  obtain ⟨b, en, kd, ky, v, ⟨⟨ok, val, ks, vs⟩, kv, vv⟩⟩ := c
  simp only at *
  have HF : Hd (Fr (fun _ => False) w (w.alloc (.cells #[vI b, vI en, vI kd, vI ky, .string v, .bool ok, .string val, kv, vv] 87))) := (Fr.refl _ w).alloc _
  have hc := HS.out _ HF.out
  clear HS
  by_cases hk : kd = 3
  · subst hk
    go_enter Tryz.func78, Tryz.ntmps78
    go_wp2_with (go_at_call 77; refine hc.mono ?_; rintro _ w3 ⟨rfl, hf3⟩; have HF3 : Hd _ := hf3; clear hf3)
    go_ret
    exact ⟨by simp, HF.out.trans HF3.out⟩
  · by_cases hk2 : ky = key
    · subst hk2
      go_enter Tryz.func78, Tryz.ntmps78
      go_wp2_with (go_at_call 77; refine hc.mono ?_; rintro _ w3 ⟨rfl, hf3⟩; have HF3 : Hd _ := hf3; clear hf3)
      go_ret
      exact ⟨by simp, HF.out.trans HF3.out⟩
    · go_enter Tryz.func78, Tryz.ntmps78
      go_wp2_with fail
      go_ret
      exact ⟨by simp [hk, hk2], HF.out⟩

set_option maxHeartbeats 4000000 in
theorem precedes_any (c d : Cl) (w : World) (h : c.R.At w) (hf : CFine c) (h' : d.R.At w) (hf' : CFine d) : Calls Tryz.prog 68 #[c.V, d.V] w fun e w' => e = .returned (.bool (precB c d)) ∧ Fr (fun _ => False) w w' := by
  have H1 : Hd (∀ W, Fr (fun _ => False) w W → Calls Tryz.prog 77 #[d.V, vI c.ky] W fun e w' => e = .returned (.bool (findsB d c.ky)) ∧ Fr (fun _ => False) W w') := fun W f => finds_any d c.ky W (h'.fr f) hf'
  have H2 : Hd (∀ W, Fr (fun _ => False) w W → Calls Tryz.prog 78 #[c.V, vI d.ky] W fun e w' => e = .returned (.bool (missesB c d.ky)) ∧ Fr (fun _ => False) W w') := fun W f => misses_any c d.ky W (h.fr f) hf
  have H3 : Hd (∀ W, Calls Tryz.prog 32 #[c.V] W fun e w' => e = .returned (.bool (makesB c)) ∧ Fr (fun _ => False) W w') := fun W => makes_any c W
  have H4 : Hd (∀ W, Calls Tryz.prog 32 #[d.V] W fun e w' => e = .returned (.bool (makesB d)) ∧ Fr (fun _ => False) W w') := fun W => makes_any d W
  clear h hf h' hf'
  unfold precB
  obtain ⟨M1, hM1⟩ : ∃ B, B = makesB c := ⟨_, rfl⟩
  obtain ⟨M2, hM2⟩ : ∃ B, B = makesB d := ⟨_, rfl⟩
  obtain ⟨B1, hB1⟩ : ∃ B, B = findsB d c.ky := ⟨_, rfl⟩
  obtain ⟨B2, hB2⟩ : ∃ B, B = missesB c d.ky := ⟨_, rfl⟩
  rw [← hM1] at H3 ⊢
  rw [← hM2] at H4 ⊢
  rw [← hB1] at H1 ⊢
  rw [← hB2] at H2 ⊢
  clear hM1 hM2 hB1 hB2
  unfold Cl.V c9 at *
  obtain ⟨b, en, kd, ky, v, ⟨⟨ok, val, ks, vs⟩, kv, vv⟩⟩ := c
  obtain ⟨b', en', kd', ky', v', ⟨⟨ok', val', ks', vs'⟩, kv', vv'⟩⟩ := d
  simp only at *
  have f1 : Fr (fun _ => False) w ((w.alloc (.cells #[vI b, vI en, vI kd, vI ky, .string v, .bool ok, .string val, kv, vv] 87)).alloc (.cells #[vI b', vI en', vI kd', vI ky', .string v', .bool ok', .string val', kv', vv'] 87)) := ((Fr.refl _ w).alloc _).alloc _
  have b1 : ((w.alloc (.cells #[vI b, vI en, vI kd, vI ky, .string v, .bool ok, .string val, kv, vv] 87)).alloc (.cells #[vI b', vI en', vI kd', vI ky', .string v', .bool ok', .string val', kv', vv'] 87)).heap[w.heap.size]? = some (.cells #[vI b, vI en, vI kd, vI ky, .string v, .bool ok, .string val, kv, vv] 87) := by
    rw [Go.RowKit.Below.heap_alloc _ _ _ (by simp)]; exact heap_alloc_last w _
  have b2 : ((w.alloc (.cells #[vI b, vI en, vI kd, vI ky, .string v, .bool ok, .string val, kv, vv] 87)).alloc (.cells #[vI b', vI en', vI kd', vI ky', .string v', .bool ok', .string val', kv', vv'] 87)).heap[w.heap.size + 1]? = some (.cells #[vI b', vI en', vI kd', vI ky', .string v', .bool ok', .string val', kv', vv'] 87) := by
    have := heap_alloc_last (w.alloc (.cells #[vI b, vI en, vI kd, vI ky, .string v, .bool ok, .string val, kv, vv] 87)) (.cells #[vI b', vI en', vI kd', vI ky', .string v', .bool ok', .string val', kv', vv'] 87)
    rw [show (w.alloc (.cells #[vI b, vI en, vI kd, vI ky, .string v, .bool ok, .string val, kv, vv] 87)).heap.size = w.heap.size + 1 by simp] at this
    exact this
  obtain ⟨W, eW⟩ : ∃ W, W = ((w.alloc (.cells #[vI b, vI en, vI kd, vI ky, .string v, .bool ok, .string val, kv, vv] 87)).alloc (.cells #[vI b', vI en', vI kd', vI ky', .string v', .bool ok', .string val', kv', vv'] 87)) := ⟨_, rfl⟩
  rw [← eW] at f1 b1 b2
  have HF : Hd (Fr (fun _ => False) w W) := f1
  go_enter Tryz.func68, Tryz.ntmps68
  go_upto_region 1 with fail
  rw [← eW]
  clear eW
  have HB : Hd (∀ W2, Fr (fun _ => False) W W2 → (W2.heap[w.heap.size]? = some (.cells #[vI b, vI en, vI kd, vI ky, .string v, .bool ok, .string val, kv, vv] 87)) ∧ (W2.heap[w.heap.size + 1]? = some (.cells #[vI b', vI en', vI kd', vI ky', .string v', .bool ok', .string val', kv', vv'] 87))) := fun W2 f => ⟨(f.block _ (heap_lt b1) (fun h => h)).trans b1, (f.block _ (heap_lt b2) (fun h => h)).trans b2⟩
  obtain ⟨bb, ebb⟩ : ∃ bb, bb = w.heap.size := ⟨_, rfl⟩
  rw [← ebb] at HB b1 b2 ⊢
  clear ebb f1
  have HG : Hd (Fr (fun _ => False) W W) := Fr.refl _ _
  obtain ⟨p0, p1, p2, p3, p4, p5, p6, p7, p8⟩ := nine b1
  obtain ⟨q0, q1, q2, q3, q4, q5, q6, q7, q8⟩ := nine b2
  clear b1 b2
  by_cases hlt : (en : Int) < b' <;> cases M1 <;> cases M2
  all_goals
    go_upto_region 2 with fail
    go_upto_region 3 with ((first | (go_at_call 32; refine (H3.out _).mono ?_) | (go_at_call 77; refine (H1.out _ (HF.out.trans HG.out)).mono ?_)); (rintro _ w3 ⟨rfl, hf3⟩; replace HG : Hd (Fr _ _ _) := HG.out.trans hf3; clear hf3; obtain ⟨p0, p1, p2, p3, p4, p5, p6, p7, p8⟩ := nine (HB.out _ HG.out).1; obtain ⟨q0, q1, q2, q3, q4, q5, q6, q7, q8⟩ := nine (HB.out _ HG.out).2))
    go_upto_region 4 with ((first | (go_at_call 32; refine (H4.out _).mono ?_) | (go_at_call 78; refine (H2.out _ (HF.out.trans HG.out)).mono ?_)); (rintro _ w3 ⟨rfl, hf3⟩; replace HG : Hd (Fr _ _ _) := HG.out.trans hf3; clear hf3; obtain ⟨p0, p1, p2, p3, p4, p5, p6, p7, p8⟩ := nine (HB.out _ HG.out).1; obtain ⟨q0, q1, q2, q3, q4, q5, q6, q7, q8⟩ := nine (HB.out _ HG.out).2))
    go_wp2_with fail
  all_goals go_ret
  all_goals
    refine ⟨?_, HF.out.trans HG.out⟩
    clear HB HF HG H1 H2 H3 H4
    first
    | (have h2 : en < b' := by omega
       cases B1 <;> cases B2 <;> simp_all)
    | (have h2 : ¬ en < b' := by omega
       cases B1 <;> cases B2 <;> simp_all)
end Go.Proofs.YtihicdbplmdjiaaGreat
