import Derived.Test.YtdkijecnnmncnaaQB5
import Derived.Test.YtdkijecnnmncnaaQA5J
namespace Go.Proofs.Ytdkijecnnmncnaa
open Go.RowKit (wrap32 wrap64)
set_option linter.unusedVariables false
set_option linter.unusedSimpArgs false

theorem low_nil {P R : Int} (h : ¬ LowOk P R) (w : World) (B : Nat) : LowA w B (.agg #[.slice none 0 0, .slice none 0 0]) P R :=
  ⟨_, _, rfl, by unfold lowH; rw [if_neg h]; exact ⟨none, 0, rfl, fun e => absurd rfl e⟩, (fun k e => by cases e), by unfold lowL; rw [if_neg h]; exact ⟨none, 0, rfl, fun e => absurd rfl e⟩⟩
theorem low_cases {P R : Int} (h : ¬ LowOk P R) : P < 0 ∨ (0 ≤ P ∧ P > 8) ∨ (0 ≤ P ∧ P ≤ 8 ∧ R < 0) ∨ (0 ≤ P ∧ P ≤ 8 ∧ 0 ≤ R ∧ R > 4) := by
  unfold LowOk at h; omega

set_option maxRecDepth 100000 in
set_option maxHeartbeats 2000000 in
theorem lowest_out (P R V : Int) (a : Option Addr) (n c : Nat) (w : World) (hno : ¬ LowOk P R) :
    Calls Try.prog 7 #[.agg #[vI P, vI R, vI V, .slice a n c]] w fun e w' => ∃ v, e = .returned v ∧ LowA w' w.heap.size v P R ∧ Fr (fun _ => False) w w' := by
  obtain ⟨wa, hwa⟩ : ∃ wa, wa = (w.alloc (.cells #[vI P, vI R, vI V, .slice a n c] 32)).alloc nil2 := ⟨_, rfl⟩
  have hF : Fr (fun _ => False) w wa := by rw [hwa]; exact Fr.alloc (Fr.alloc (Fr.refl _ w) _) _
  have b1' : wa.heap[w.heap.size]? = some (.cells #[vI P, vI R, vI V, .slice a n c] 32) := by
    rw [hwa]; exact keepA (heap_new w _) _
  have b2' : wa.heap[w.heap.size + 1]? = some nil2 := by
    have := heap_new (w.alloc (.cells #[vI P, vI R, vI V, .slice a n c] 32)) nil2
    rw [World.size_alloc] at this
    rw [hwa]; exact this
  have HWA : Hd (wa = (w.alloc (.cells #[vI P, vI R, vI V, .slice a n c] 32)).alloc nil2) := hwa
  have HF : Hd (Fr (fun _ => False) w wa) := hF
  obtain ⟨H, hH⟩ : ∃ H, H = w.heap.size := ⟨_, rfl⟩
  have HH : Hd (H = w.heap.size) := hH
  rw [← hH] at b1' b2'
  have c0 : wa.cell? ⟨H, 0, none⟩ = some (vI P) := by rw [cell_of b1']; rfl
  have c1 : wa.cell? ⟨H, 1, none⟩ = some (vI R) := by rw [cell_of b1']; rfl
  have y0 : wa.cell? ⟨H + 1, 0, none⟩ = some (.slice none 0 0) := by rw [cell_of b2']; rfl
  have y1 : wa.cell? ⟨H + 1, 1, none⟩ = some (.slice none 0 0) := by rw [cell_of b2']; rfl
  have z0 := frozen_of b2' 0
  have z1 := frozen_of b2' 1
  have HZ : Hd (((wa.setCell ⟨H + 1, 0, none⟩ (.slice none 0 0)).setCell ⟨H + 1, 1, none⟩ (.slice none 0 0)).heap[H + 1]? = some nil2) := set_of (set_of b2' 0 _) 1 _
  have f : Fr (fun j => j = H + 1) wa ((wa.setCell ⟨H + 1, 0, none⟩ (.slice none 0 0)).setCell ⟨H + 1, 1, none⟩ (.slice none 0 0)) := (setCell_fr wa (H + 1) 0 _).trans (setCell_fr _ (H + 1) 1 _)
  have HFz : Hd (Fr (fun _ => False) w ((wa.setCell ⟨H + 1, 0, none⟩ (.slice none 0 0)).setCell ⟨H + 1, 1, none⟩ (.slice none 0 0))) := HF.out.then f (fun j hj e => by have := HH.out; omega)
  have HNO : Hd (¬ LowOk P R) := hno
  clear hF hwa hH b1' b2' f HF
  rcases low_cases hno with h | h | h | h
  · have d1 : decide (P < 0) = true := by simpa using h
    clear hno h
    go_enter Try.func7, Try.ntmps7
    go_upto_region 1 with fail
    rw [← HWA.out, ← HH.out]
    clear HWA
    go_wp2_with fail
    generalize (wa.setCell ⟨H + 1, 0, none⟩ (.slice none 0 0)).setCell ⟨H + 1, 1, none⟩ (.slice none 0 0) = wz at *
    have e0 : wz.cell? ⟨H + 1, 0, none⟩ = some (.slice none 0 0) := by rw [cell_of HZ.out]; rfl
    have e1 : wz.cell? ⟨H + 1, 1, none⟩ = some (.slice none 0 0) := by rw [cell_of HZ.out]; rfl
    refine bodyPost_ret (v := .agg #[.slice none 0 0, .slice none 0 0]) ?_ rfl ⟨_, rfl, low_nil HNO.out wz _, HFz.out⟩
    rw [results_cell (p := 2) (ty := 36) Try.results7]
    simp [go_sem, e0, e1]
  · obtain ⟨h1, h2⟩ := h
    have d1 : decide (P < 0) = false := by simp; omega
    have d2 : decide (P > 8) = true := by simp; omega
    clear hno h1 h2
    go_enter Try.func7, Try.ntmps7
    go_upto_region 1 with fail
    rw [← HWA.out, ← HH.out]
    clear HWA
    go_wp2_with fail
    generalize (wa.setCell ⟨H + 1, 0, none⟩ (.slice none 0 0)).setCell ⟨H + 1, 1, none⟩ (.slice none 0 0) = wz at *
    have e0 : wz.cell? ⟨H + 1, 0, none⟩ = some (.slice none 0 0) := by rw [cell_of HZ.out]; rfl
    have e1 : wz.cell? ⟨H + 1, 1, none⟩ = some (.slice none 0 0) := by rw [cell_of HZ.out]; rfl
    refine bodyPost_ret (v := .agg #[.slice none 0 0, .slice none 0 0]) ?_ rfl ⟨_, rfl, low_nil HNO.out wz _, HFz.out⟩
    rw [results_cell (p := 2) (ty := 36) Try.results7]
    simp [go_sem, e0, e1]
  · obtain ⟨h1, h2, h3⟩ := h
    have d1 : decide (P < 0) = false := by simp; omega
    have d2 : decide (P > 8) = false := by simp; omega
    have d3 : decide (R < 0) = true := by simpa using h3
    clear hno h1 h2 h3
    go_enter Try.func7, Try.ntmps7
    go_upto_region 1 with fail
    rw [← HWA.out, ← HH.out]
    clear HWA
    go_wp2_with fail
    generalize (wa.setCell ⟨H + 1, 0, none⟩ (.slice none 0 0)).setCell ⟨H + 1, 1, none⟩ (.slice none 0 0) = wz at *
    have e0 : wz.cell? ⟨H + 1, 0, none⟩ = some (.slice none 0 0) := by rw [cell_of HZ.out]; rfl
    have e1 : wz.cell? ⟨H + 1, 1, none⟩ = some (.slice none 0 0) := by rw [cell_of HZ.out]; rfl
    refine bodyPost_ret (v := .agg #[.slice none 0 0, .slice none 0 0]) ?_ rfl ⟨_, rfl, low_nil HNO.out wz _, HFz.out⟩
    rw [results_cell (p := 2) (ty := 36) Try.results7]
    simp [go_sem, e0, e1]
  · obtain ⟨h1, h2, h3, h4⟩ := h
    have d1 : decide (P < 0) = false := by simp; omega
    have d2 : decide (P > 8) = false := by simp; omega
    have d3 : decide (R < 0) = false := by simp; omega
    have d4 : decide (R > 4) = true := by simp; omega
    clear hno h1 h2 h3 h4
    go_enter Try.func7, Try.ntmps7
    go_upto_region 1 with fail
    rw [← HWA.out, ← HH.out]
    clear HWA
    go_wp2_with fail
    generalize (wa.setCell ⟨H + 1, 0, none⟩ (.slice none 0 0)).setCell ⟨H + 1, 1, none⟩ (.slice none 0 0) = wz at *
    have e0 : wz.cell? ⟨H + 1, 0, none⟩ = some (.slice none 0 0) := by rw [cell_of HZ.out]; rfl
    have e1 : wz.cell? ⟨H + 1, 1, none⟩ = some (.slice none 0 0) := by rw [cell_of HZ.out]; rfl
    refine bodyPost_ret (v := .agg #[.slice none 0 0, .slice none 0 0]) ?_ rfl ⟨_, rfl, low_nil HNO.out wz _, HFz.out⟩
    rw [results_cell (p := 2) (ty := 36) Try.results7]
    simp [go_sem, e0, e1]

theorem lowest_any (P R V : Int) (a : Option Addr) (n c : Nat) (w : World) :
    Calls Try.prog 7 #[.agg #[vI P, vI R, vI V, .slice a n c]] w fun e w' => ∃ v, e = .returned v ∧ LowA w' w.heap.size v P R ∧ Fr (fun _ => False) w w' := by
  by_cases h : LowOk P R
  · obtain ⟨h1, h2, h3, h4⟩ := h
    obtain ⟨p, rfl⟩ := Int.eq_ofNat_of_zero_le h1
    obtain ⟨r, rfl⟩ := Int.eq_ofNat_of_zero_le h3
    exact lowest_in p r V a n c w (by omega) (by omega)
  · exact lowest_out P R V a n c w h

set_option maxRecDepth 100000 in
set_option maxHeartbeats 2000000 in
theorem rlowest_out (P R V : Int) (a : Option Addr) (n c : Nat) (w : World) (hno : ¬ LowOk P R) :
    Calls Try.prog 9 #[.agg #[vI P, vI R, vI V, .slice a n c]] w fun e w' => ∃ v, e = .returned v ∧ LowA w' w.heap.size v P R ∧ Fr (fun _ => False) w w' := by
  obtain ⟨wa, hwa⟩ : ∃ wa, wa = ((w.alloc (.cells #[vI P, vI R, vI V, .slice a n c] 32)).alloc nil2).alloc nil2 := ⟨_, rfl⟩
  have hF : Fr (fun _ => False) w wa := by rw [hwa]; exact Fr.alloc (Fr.alloc (Fr.alloc (Fr.refl _ w) _) _) _
  have b1' : wa.heap[w.heap.size]? = some (.cells #[vI P, vI R, vI V, .slice a n c] 32) := by
    rw [hwa]; exact keepA (keepA (heap_new w _) _) _
  have b2' : wa.heap[w.heap.size + 1]? = some nil2 := by
    have := heap_new (w.alloc (.cells #[vI P, vI R, vI V, .slice a n c] 32)) nil2
    rw [World.size_alloc] at this
    rw [hwa]; exact keepA this _
  have b3' : wa.heap[w.heap.size + 2]? = some nil2 := by
    have := heap_new ((w.alloc (.cells #[vI P, vI R, vI V, .slice a n c] 32)).alloc nil2) nil2
    rw [World.size_alloc, World.size_alloc] at this
    rw [hwa]; exact this
  have HWA : Hd (wa = ((w.alloc (.cells #[vI P, vI R, vI V, .slice a n c] 32)).alloc nil2).alloc nil2) := hwa
  have HF : Hd (Fr (fun _ => False) w wa) := hF
  obtain ⟨H, hH⟩ : ∃ H, H = w.heap.size := ⟨_, rfl⟩
  have HH : Hd (H = w.heap.size) := hH
  rw [← hH] at b1' b2' b3'
  have c0 : wa.cell? ⟨H, 0, none⟩ = some (vI P) := by rw [cell_of b1']; rfl
  have c1 : wa.cell? ⟨H, 1, none⟩ = some (vI R) := by rw [cell_of b1']; rfl
  have y0 : wa.cell? ⟨H + 1, 0, none⟩ = some (.slice none 0 0) := by rw [cell_of b2']; rfl
  have y1 : wa.cell? ⟨H + 1, 1, none⟩ = some (.slice none 0 0) := by rw [cell_of b2']; rfl
  have z0 := frozen_of b2' 0
  have z1 := frozen_of b2' 1
  have x0 : wa.cell? ⟨H + 2, 0, none⟩ = some (.slice none 0 0) := by rw [cell_of b3']; rfl
  have x1 : wa.cell? ⟨H + 2, 1, none⟩ = some (.slice none 0 0) := by rw [cell_of b3']; rfl
  have HZ : Hd (((wa.setCell ⟨H + 1, 0, none⟩ (.slice none 0 0)).setCell ⟨H + 1, 1, none⟩ (.slice none 0 0)).heap[H + 1]? = some nil2) := set_of (set_of b2' 0 _) 1 _
  have f : Fr (fun j => j = H + 1) wa ((wa.setCell ⟨H + 1, 0, none⟩ (.slice none 0 0)).setCell ⟨H + 1, 1, none⟩ (.slice none 0 0)) := (setCell_fr wa (H + 1) 0 _).trans (setCell_fr _ (H + 1) 1 _)
  have HFz : Hd (Fr (fun _ => False) w ((wa.setCell ⟨H + 1, 0, none⟩ (.slice none 0 0)).setCell ⟨H + 1, 1, none⟩ (.slice none 0 0))) := HF.out.then f (fun j hj e => by have := HH.out; omega)
  have HNO : Hd (¬ LowOk P R) := hno
  clear hF hwa hH b1' b2' f HF b3'
  rcases low_cases hno with h | h | h | h
  · have d1 : decide (P < 0) = true := by simpa using h
    clear hno h
    go_enter Try.func9, Try.ntmps9
    go_upto_region 2 with fail
    rw [← HWA.out, ← HH.out]
    clear HWA
    go_wp2_with fail
    generalize (wa.setCell ⟨H + 1, 0, none⟩ (.slice none 0 0)).setCell ⟨H + 1, 1, none⟩ (.slice none 0 0) = wz at *
    have e0 : wz.cell? ⟨H + 1, 0, none⟩ = some (.slice none 0 0) := by rw [cell_of HZ.out]; rfl
    have e1 : wz.cell? ⟨H + 1, 1, none⟩ = some (.slice none 0 0) := by rw [cell_of HZ.out]; rfl
    refine bodyPost_ret (v := .agg #[.slice none 0 0, .slice none 0 0]) ?_ rfl ⟨_, rfl, low_nil HNO.out wz _, HFz.out⟩
    rw [results_cell (p := 2) (ty := 36) Try.results9]
    simp [go_sem, e0, e1]
  · obtain ⟨h1, h2⟩ := h
    have d1 : decide (P < 0) = false := by simp; omega
    have d2 : decide (P > 8) = true := by simp; omega
    clear hno h1 h2
    go_enter Try.func9, Try.ntmps9
    go_upto_region 2 with fail
    rw [← HWA.out, ← HH.out]
    clear HWA
    go_wp2_with fail
    generalize (wa.setCell ⟨H + 1, 0, none⟩ (.slice none 0 0)).setCell ⟨H + 1, 1, none⟩ (.slice none 0 0) = wz at *
    have e0 : wz.cell? ⟨H + 1, 0, none⟩ = some (.slice none 0 0) := by rw [cell_of HZ.out]; rfl
    have e1 : wz.cell? ⟨H + 1, 1, none⟩ = some (.slice none 0 0) := by rw [cell_of HZ.out]; rfl
    refine bodyPost_ret (v := .agg #[.slice none 0 0, .slice none 0 0]) ?_ rfl ⟨_, rfl, low_nil HNO.out wz _, HFz.out⟩
    rw [results_cell (p := 2) (ty := 36) Try.results9]
    simp [go_sem, e0, e1]
  · obtain ⟨h1, h2, h3⟩ := h
    have d1 : decide (P < 0) = false := by simp; omega
    have d2 : decide (P > 8) = false := by simp; omega
    have d3 : decide (R < 0) = true := by simpa using h3
    clear hno h1 h2 h3
    go_enter Try.func9, Try.ntmps9
    go_upto_region 2 with fail
    rw [← HWA.out, ← HH.out]
    clear HWA
    go_wp2_with fail
    generalize (wa.setCell ⟨H + 1, 0, none⟩ (.slice none 0 0)).setCell ⟨H + 1, 1, none⟩ (.slice none 0 0) = wz at *
    have e0 : wz.cell? ⟨H + 1, 0, none⟩ = some (.slice none 0 0) := by rw [cell_of HZ.out]; rfl
    have e1 : wz.cell? ⟨H + 1, 1, none⟩ = some (.slice none 0 0) := by rw [cell_of HZ.out]; rfl
    refine bodyPost_ret (v := .agg #[.slice none 0 0, .slice none 0 0]) ?_ rfl ⟨_, rfl, low_nil HNO.out wz _, HFz.out⟩
    rw [results_cell (p := 2) (ty := 36) Try.results9]
    simp [go_sem, e0, e1]
  · obtain ⟨h1, h2, h3, h4⟩ := h
    have d1 : decide (P < 0) = false := by simp; omega
    have d2 : decide (P > 8) = false := by simp; omega
    have d3 : decide (R < 0) = false := by simp; omega
    have d4 : decide (R > 4) = true := by simp; omega
    clear hno h1 h2 h3 h4
    go_enter Try.func9, Try.ntmps9
    go_upto_region 2 with fail
    rw [← HWA.out, ← HH.out]
    clear HWA
    go_wp2_with fail
    generalize (wa.setCell ⟨H + 1, 0, none⟩ (.slice none 0 0)).setCell ⟨H + 1, 1, none⟩ (.slice none 0 0) = wz at *
    have e0 : wz.cell? ⟨H + 1, 0, none⟩ = some (.slice none 0 0) := by rw [cell_of HZ.out]; rfl
    have e1 : wz.cell? ⟨H + 1, 1, none⟩ = some (.slice none 0 0) := by rw [cell_of HZ.out]; rfl
    refine bodyPost_ret (v := .agg #[.slice none 0 0, .slice none 0 0]) ?_ rfl ⟨_, rfl, low_nil HNO.out wz _, HFz.out⟩
    rw [results_cell (p := 2) (ty := 36) Try.results9]
    simp [go_sem, e0, e1]

end Go.Proofs.Ytdkijecnnmncnaa

namespace Go.Proofs.Ytdkijecnnmncnaa
open Go.RowKit (wrap32 wrap64)
set_option linter.unusedVariables false
set_option linter.unusedSimpArgs false

/-- The document's Lowest, under way. -/
structure RL (w wr : World) (H : Nat) (o : Obj) (r k : Nat) (hv rv : Value) (us : List Value) : Prop where
  bH : wr.heap[H]? = some o
  bR : wr.heap[H + 1]? = some nil2
  bS : wr.heap[H + 2]? = some (.cells #[hv, rv] 36)
  oh : wr.ownsRow (H + 3) 3 1 hv k (List.replicate k (vI 9))
  ol : wr.ownsRow (H + 3) 27 1 rv us.length us
  each : ∀ u ∈ us, IOwn wr (H + 3) u (List.replicate r 9)
  apt : ∀ u ∈ us, ∀ j, u.ownBlock = some j → hv.ownBlock ≠ some j
  fr : Fr (fun _ => False) w wr
theorem RL.keep {w wr w' : World} {H r k : Nat} {o : Obj} {hv rv : Value} {us : List Value} (h : RL w wr H o r k hv rv us) (f : Fr (fun _ => False) wr w') : RL w w' H o r k hv rv us :=
  ⟨keepF h.bH f, keepF h.bR f, keepF h.bS f, ownsRow_fr h.oh f (fun _ _ e => e), ownsRow_fr h.ol f (fun _ _ e => e), fun u hu => (h.each u hu).fr f (fun _ _ e => e), h.apt, h.fr.trans f⟩
theorem rep_succ {α : Type} (k : Nat) (x : α) : List.replicate k x ++ [x] = List.replicate (k + 1) x := by rw [List.replicate_succ']
theorem RL.hvGrown {w wb w6 : World} {H r k g cap : Nat} {o : Obj} {hv rv : Value} {us : List Value} (h : RL w wb H o r k hv rv us) (hH : H = w.heap.size) (hg : wb.grownBy w6 hv.ownBlock) (ho : w6.ownsRow (H + 3) 3 1 (.slice (some ⟨g, 0, none⟩) (k + 1) cap) (k + 1) (List.replicate k (vI 9) ++ [vI 9])) (hat : hv.ownBlock = some g ∨ g = wb.heap.size) :
    RL w (w6.setCell ⟨H + 2, 0, none⟩ (.slice (some ⟨g, 0, none⟩) (k + 1) cap)) H o r (k + 1) (.slice (some ⟨g, 0, none⟩) (k + 1) cap) rv us := by
  have f := grown_fr hg
  have hb : ∀ j, hv.ownBlock = some j → H + 3 ≤ j := fun j e => (World.ownsRow.lt h.oh j e).1
  have lo : ∀ j (x : Obj), j < H + 3 → wb.heap[j]? = some x → w6.heap[j]? = some x := fun j x hj hx => (f.block j (heap_lt hx) (fun e => by have := hb j e; omega)).trans hx
  have f2 := setCell_fr w6 (H + 2) 0 (.slice (some ⟨g, 0, none⟩) (k + 1) cap)
  have up : ∀ j (x : Obj), j ≠ H + 2 → w6.heap[j]? = some x → (w6.setCell ⟨H + 2, 0, none⟩ (.slice (some ⟨g, 0, none⟩) (k + 1) cap)).heap[j]? = some x := fun j x hj hx => (f2.block j (heap_lt hx) hj).trans hx
  rw [rep_succ] at ho
  refine ⟨up H _ (by omega) (lo H _ (by omega) h.bH), up _ _ (by omega) (lo _ _ (by omega) h.bR), set_of (lo _ _ (by omega) h.bS) 0 _, ownsRow_fr ho f2 (fun j e e2 => by have := (World.ownsRow.lt ho j e).1; omega), ?_, fun u hu => ?_, fun u hu j e e2 => ?_, ?_⟩
  · have h1 := ownsRow_fr h.ol f (fun j e e2 => own_apart h.oh h.ol (by decide) j e e2)
    exact ownsRow_fr h1 f2 (fun j e e2 => by have := (World.ownsRow.lt h1 j e).1; omega)
  · have h1 := (h.each u hu).fr f (fun j e e2 => h.apt u hu j e e2)
    exact h1.fr f2 (fun j e e2 => by have := (h1.ge j e).1; omega)
  · cases e2
    rcases hat with e3 | e3
    · exact h.apt u hu g e e3
    · have := ((h.each u hu).ge g e).2; omega
  · exact (h.fr.then f (fun j hj e => by have := hb j e; omega)).then f2 (fun j hj e => by omega)
theorem RL.rvGrown {w wb w6 : World} {H r k g cap : Nat} {o : Obj} {hv rv u : Value} {us : List Value} (h : RL w wb H o r k hv rv us) (hH : H = w.heap.size) (hu : IOwn wb (H + 3) u (List.replicate r 9)) (hap : ∀ j, u.ownBlock = some j → hv.ownBlock ≠ some j) (hg : wb.grownBy w6 rv.ownBlock) (ho : w6.ownsRow (H + 3) 27 1 (.slice (some ⟨g, 0, none⟩) (us.length + 1) cap) (us.length + 1) (us ++ [u])) :
    RL w (w6.setCell ⟨H + 2, 1, none⟩ (.slice (some ⟨g, 0, none⟩) (us.length + 1) cap)) H o r k hv (.slice (some ⟨g, 0, none⟩) (us.length + 1) cap) (us ++ [u]) := by
  have f := grown_fr hg
  have hb : ∀ j, rv.ownBlock = some j → H + 3 ≤ j := fun j e => (World.ownsRow.lt h.ol j e).1
  have lo : ∀ j (x : Obj), j < H + 3 → wb.heap[j]? = some x → w6.heap[j]? = some x := fun j x hj hx => (f.block j (heap_lt hx) (fun e => by have := hb j e; omega)).trans hx
  have f2 := setCell_fr w6 (H + 2) 1 (.slice (some ⟨g, 0, none⟩) (us.length + 1) cap)
  have up : ∀ j (x : Obj), j ≠ H + 2 → w6.heap[j]? = some x → (w6.setCell ⟨H + 2, 1, none⟩ (.slice (some ⟨g, 0, none⟩) (us.length + 1) cap)).heap[j]? = some x := fun j x hj hx => (f2.block j (heap_lt hx) hj).trans hx
  have ke : ∀ x, IOwn wb (H + 3) x (List.replicate r 9) → IOwn (w6.setCell ⟨H + 2, 1, none⟩ (.slice (some ⟨g, 0, none⟩) (us.length + 1) cap)) (H + 3) x (List.replicate r 9) := fun x hx => by
    have h1 := hx.fr f (fun j e e2 => own_apart h.ol hx (by decide) j e e2)
    exact h1.fr f2 (fun j e e2 => by have := (h1.ge j e).1; omega)
  refine ⟨up H _ (by omega) (lo H _ (by omega) h.bH), up _ _ (by omega) (lo _ _ (by omega) h.bR), set_of (lo _ _ (by omega) h.bS) 1 _, ?_, ?_, fun x hx => ?_, fun x hx j e => ?_, ?_⟩
  · have h1 := ownsRow_fr h.oh f (fun j e e2 => own_apart h.ol h.oh (by decide) j e e2)
    exact ownsRow_fr h1 f2 (fun j e e2 => by have := (World.ownsRow.lt h1 j e).1; omega)
  · rw [List.length_append]
    exact ownsRow_fr ho f2 (fun j e e2 => by have := (World.ownsRow.lt ho j e).1; omega)
  · rcases List.mem_append.1 hx with hx | hx
    · exact ke x (h.each x hx)
    · simp at hx; subst hx; exact ke _ hu
  · rcases List.mem_append.1 hx with hx | hx
    · exact h.apt x hx j e
    · simp at hx; subst hx; exact hap j e
  · exact (h.fr.then f (fun j hj e => by have := hb j e; omega)).then f2 (fun j hj e => by omega)

set_option maxRecDepth 100000 in
set_option maxHeartbeats 2000000 in
theorem rlowest_in (p r : Nat) (V : Int) (a : Option Addr) (n c : Nat) (w : World) (hp : p ≤ 8) (hr : r ≤ 4) :
    Calls Try.prog 9 #[.agg #[vI p, vI r, vI V, .slice a n c]] w fun e w' => ∃ v, e = .returned v ∧ LowA w' w.heap.size v p r ∧ Fr (fun _ => False) w w' := by
  obtain ⟨i3, hi3, hz3, hs3, hb3⟩ := info_parts (P := Try.prog) (e := 3) (z := .int .i64 0) (size := 1) (bytes := 8) (by kernel_rfl)
  obtain ⟨i27, hi27, hz27, hs27, hb27⟩ := info_parts (P := Try.prog) (e := 27) (z := .slice none 0 0) (size := 1) (bytes := 24) (by kernel_rfl)
  obtain ⟨wa, hwa⟩ : ∃ wa, wa = ((w.alloc (.cells #[vI p, vI r, vI V, .slice a n c] 32)).alloc nil2).alloc nil2 := ⟨_, rfl⟩
  obtain ⟨H, hH⟩ : ∃ H, H = w.heap.size := ⟨_, rfl⟩
  have HH : Hd (H = w.heap.size) := hH
  have HRL : Hd (RL w wa H (.cells #[vI p, vI r, vI V, .slice a n c] 32) r 0 (.slice none 0 0) (.slice none 0 0) []) := by
    refine ⟨?_, ?_, ?_, World.ownsRow_nil _ _ _ _, World.ownsRow_nil _ _ _ _, fun u hu => by simp at hu, fun u hu => by simp at hu, ?_⟩
    · rw [hwa, hH]; exact keepA (keepA (heap_new w _) _) _
    · have := heap_new (w.alloc (.cells #[vI p, vI r, vI V, .slice a n c] 32)) nil2
      rw [World.size_alloc] at this
      rw [hwa, hH]; exact keepA this _
    · have := heap_new ((w.alloc (.cells #[vI p, vI r, vI V, .slice a n c] 32)).alloc nil2) nil2
      rw [World.size_alloc, World.size_alloc] at this
      rw [hwa, hH]; exact this
    · rw [hwa]; exact Fr.alloc (Fr.alloc (Fr.alloc (Fr.refl _ w) _) _) _
  have HWA : Hd (wa = ((w.alloc (.cells #[vI p, vI r, vI V, .slice a n c] 32)).alloc nil2).alloc nil2) := hwa
  have c0 : wa.cell? ⟨H, 0, none⟩ = some (vI p) := by rw [cell_of HRL.out.bH]; rfl
  have c1 : wa.cell? ⟨H, 1, none⟩ = some (vI r) := by rw [cell_of HRL.out.bH]; rfl
  have d1 : decide ((p : Int) < 0) = false := by simp
  have d2 : decide ((p : Int) > 8) = false := by simp; omega
  have d3 : decide ((r : Int) < 0) = false := by simp
  have d4 : decide ((r : Int) > 4) = false := by simp; omega
  clear hwa hH
  go_enter Try.func9, Try.ntmps9
  go_upto_region 2 with fail
  rw [← HWA.out, ← HH.out]
  clear HWA
  go_wp2_with fail
  clear c0 c1 d1 d2 d3 d4
  go_loopw [4] (fun v wr => ∃ (k : Nat) (hv rv : Value) (us : List Value), v = .int .i64 k ∧ k ≤ p ∧ Hd (us.length = k) ∧ Hd (RL w wr H (.cells #[vI p, vI r, vI V, .slice a n c] 32) r k hv rv us)) (fun v _ => match v with | .int _ q => p - q.toNat | _ => 0)
  case atStart => exact ⟨0, _, _, [], rfl, Nat.zero_le _, rfl, HRL.out⟩
  case round =>
    clear HRL
    obtain ⟨k, hv, rv, us, rfl, hk, HU, HRL⟩ := hrel
    have c0 : wr.cell? ⟨H, 0, none⟩ = some (vI (p : Int)) := by rw [cell_of HRL.out.bH]; rfl
    by_cases hlt : k < p
    · have hk0 : (0 : Int) ≤ k := by omega
      have hk1 : (k : Int) < p := by omega
      have x0 : wr.cell? ⟨H + 2, 0, none⟩ = some hv := by rw [cell_of HRL.out.bS]; rfl
      obtain ⟨wb, hwb⟩ : ∃ wb, wb = wr.alloc (.cells #[vI 9] 3) := ⟨_, rfl⟩
      have HB : Hd (RL w wb H (.cells #[vI p, vI r, vI V, .slice a n c] 32) r k hv rv us) := by unfold Hd; rw [hwb]; exact HRL.out.keep (Fr.alloc (Fr.refl _ wr) _)
      have hnews : ∀ j u, [vI 9][j]? = some u → wb.cell? ((⟨wr.heap.size, 0, none⟩ : Addr).add j) = some u := by
        rw [hwb]; exact World.news_of_block (cs := #[vI 9]) (heap_new wr (.cells #[vI 9] 3))
      have hws : wb.heap.size = wr.heap.size + 1 := by rw [hwb]; simp
      have hbase : H + 3 ≤ wb.heap.size := by have := heap_lt HB.out.bS; omega
      have HWB : Hd (wb = wr.alloc (.cells #[vI 9] 3)) := hwb
      obtain ⟨ha, hc, ehv⟩ : ∃ ha hc, hv = .slice ha k hc := by
        rcases HRL.out.oh.2 with ⟨e, e2⟩ | ⟨g, cap, cur, e, -⟩
        · exact ⟨none, 0, by rw [e, e2]⟩
        · exact ⟨_, _, e⟩
      clear hwb
      subst ehv
      go_upto_region 8 with ((at_builtin; refine Hd.out ?_))
      rw [← HWB.out]
      clear HWB
      unfold Hd
      refine wpList_append_lies _ rfl (.tmp 33) (.tmp 34) 27 rfl (H + 3) 3 i3 (.int .i64 0) 1 8 under27 hi3 hz3 hs3 hb3 rfl (by omega) (.slice ha k hc) k _ rfl HB.out.oh ⟨wr.heap.size, 0, none⟩ 1 1 [vI 9] rfl rfl hnews (by intro u hu; simp at hu; subst hu; rfl) (by omega) (by unfold maxLen; omega) (by omega) hbase (wr.heap.size + 1) hws ?_
      intro g6 cap6 w6 hown6 hgrow6 hat6 hlt6
      have y0 : w6.cell? ⟨H + 2, 0, none⟩ = some (.slice ha k hc) := by
        have b := ((grown_fr hgrow6).block (H + 2) (heap_lt HB.out.bS) (fun e => by have := (World.ownsRow.lt HB.out.oh _ e).1; omega)).trans HB.out.bS
        rw [cell_of b]; rfl
      have z0 : w6.frozen? ⟨H + 2, 0, none⟩ = false := by
        have b := ((grown_fr hgrow6).block (H + 2) (heap_lt HB.out.bS) (fun e => by have := (World.ownsRow.lt HB.out.oh _ e).1; omega)).trans HB.out.bS
        exact frozen_of b 0
      have HR7 : Hd (RL w (w6.setCell ⟨H + 2, 0, none⟩ (.slice (some ⟨g6, 0, none⟩) (k + 1) cap6)) H (.cells #[vI p, vI r, vI V, .slice a n c] 32) r (k + 1) (.slice (some ⟨g6, 0, none⟩) (k + 1) cap6) rv us) := HB.out.hvGrown HH.out hgrow6 hown6 (by rw [hws]; exact hat6)
      clear hown6 hgrow6 hat6 hlt6 HB hnews hws hbase HRL x0 c0
      go_upto_region 8 with fail
      clear y0 z0
      generalize w6.setCell ⟨H + 2, 0, none⟩ (.slice (some ⟨g6, 0, none⟩) (k + 1) cap6) = w7 at *
      go_wp2_with fail
      obtain ⟨B, hB⟩ : ∃ B, B = w7.heap.size := ⟨_, rfl⟩
      have HBB : Hd (B = w7.heap.size) := hB
      clear hB
      go_loopw [5, 6] (fun mv v wr => ∃ (j : Nat), v = .int .i64 j ∧ j ≤ r ∧ Hd (IOwn wr B mv (List.replicate j 9)) ∧ Hd (Fr (fun _ => False) w7 wr)) (fun _ v _ => match v with | .int _ q => r - q.toNat | _ => 0)
      case atStart => exact ⟨0, rfl, Nat.zero_le _, World.ownsRow_nil _ _ _ _, Fr.refl _ _⟩
      case round =>
        obtain ⟨j, rfl, hj, HO, HF⟩ := hrel
        have c1 : wr.cell? ⟨H, 1, none⟩ = some (vI (r : Int)) := by rw [cell_of (keepF HR7.out.bH HF.out)]; rfl
        by_cases hltj : j < r
        · have hj0 : (0 : Int) ≤ j := by omega
          have hj1 : (j : Int) < r := by omega
          have hsz := HF.out.size
          have HO1 : Hd ((wr.alloc (.cells #[vI 9] 3)).ownsRow B 3 1 u5 (List.replicate j (9 : Int)).length ((List.replicate j (9 : Int)).map vI)) := World.ownsRow.alloc HO.out _
          have hnews : ∀ j u, [vI 9][j]? = some u → (wr.alloc (.cells #[vI 9] 3)).cell? ((⟨wr.heap.size, 0, none⟩ : Addr).add j) = some u :=
            World.news_of_block (cs := #[vI 9]) (heap_new wr (.cells #[vI 9] 3))
          have hbase : B ≤ (wr.alloc (.cells #[vI 9] 3)).heap.size := by have := HBB.out; simp; omega
          have hEl : (List.replicate j (9 : Int)).length + 1 ≤ 5 := by simp; omega
          obtain ⟨E, hE⟩ : ∃ E, E = List.replicate j (9 : Int) := ⟨_, rfl⟩
          have HE : Hd (E ++ [9] = List.replicate (j + 1) (9 : Int)) := by unfold Hd; rw [hE, rep_succ]
          rw [← hE] at HO1 hEl HO
          clear hE
          go_wp2_with ((at_builtin; refine Hd.out ?_))
          unfold Hd
          refine wpList_append_lies _ rfl (.tmp 43) (.tmp 44) 27 rfl B 3 i3 (.int .i64 0) 1 8 under27 hi3 hz3 hs3 hb3 rfl (by omega) u5 E.length _ rfl HO1.out ⟨wr.heap.size, 0, none⟩ 1 1 [vI 9] rfl rfl hnews (by intro u hu; simp at hu; subst hu; rfl) (by omega) (by unfold maxLen; omega) (by omega) hbase (wr.heap.size + 1) (by simp) ?_
          intro g8 cap8 w8 hown8 hgrow8 hat8 hlt8
          have HO8 : Hd (IOwn w8 B (.slice (some ⟨g8, 0, none⟩) (E.length + 1) cap8) (E ++ [9])) := by unfold Hd IOwn; rw [List.map_append, List.length_append]; exact hown8
          have HF8 : Hd (Fr (fun _ => False) w7 w8) := grow_fr0 (HF.out.alloc _) hgrow8 (fun k hk => by have := (HO.out.ge k hk).1; have := HBB.out; omega)
          clear hown8 hgrow8 hat8 hlt8 HO HF HO1 hnews hbase c1
          go_wp2_with fail
          refine ⟨⟨j + 1, by simp, by omega, ?_, HF8.out⟩, by simp; omega⟩
          unfold Hd; rw [← HE.out]; exact HO8.out
        · have hdj : decide ((j : Int) < r) = false := by simp; omega
          have hjr : j = r := by omega
          have HO2 : Hd (IOwn wr B u5 (List.replicate r 9)) := by unfold Hd; rw [← hjr]; exact HO.out
          have HR8 : Hd (RL w wr H (.cells #[vI p, vI r, vI V, .slice a n c] 32) r (k + 1) (.slice (some ⟨g6, 0, none⟩) (k + 1) cap6) rv us) := HR7.out.keep HF.out
          have HAP : Hd (∀ j, u5.ownBlock = some j → (Value.slice (some ⟨g6, 0, none⟩) (k + 1) cap6).ownBlock ≠ some j) := fun j e e2 => by
            have h1 := (HO2.out.ge j e).1
            have h2 := (World.ownsRow.lt HR7.out.oh j e2).2
            have := HBB.out
            omega
          have x1 : wr.cell? ⟨H + 2, 1, none⟩ = some rv := by rw [cell_of HR8.out.bS]; rfl
          obtain ⟨ra, rc, erv⟩ : ∃ ra rc, rv = .slice ra us.length rc := by
            rcases HR8.out.ol.2 with ⟨e, e2⟩ | ⟨g, cap, cur, e, -⟩
            · exact ⟨none, 0, by rw [e, e2]⟩
            · exact ⟨_, _, e⟩
          obtain ⟨ua, uc, eu⟩ : ∃ ua uc, u5 = .slice ua (List.replicate r (9 : Int)).length uc := by obtain ⟨ua, uc, e, -⟩ := HO2.out.ia; exact ⟨ua, uc, e⟩
          rw [List.length_replicate] at eu
          obtain ⟨wb, hwb⟩ : ∃ wb, wb = wr.alloc (.cells #[u5] 27) := ⟨_, rfl⟩
          have hFb : Fr (fun _ => False) wr wb := by rw [hwb]; exact Fr.alloc (Fr.refl _ wr) _
          have HB : Hd (RL w wb H (.cells #[vI p, vI r, vI V, .slice a n c] 32) r (k + 1) (.slice (some ⟨g6, 0, none⟩) (k + 1) cap6) rv us) := HR8.out.keep hFb
          have HUb : Hd (IOwn wb (H + 3) u5 (List.replicate r 9)) := (HO2.out.fr hFb (fun _ _ e => e)).mono (by have := HBB.out; have := heap_lt HR7.out.bS; omega)
          have hnews : ∀ j u, [u5][j]? = some u → wb.cell? ((⟨wr.heap.size, 0, none⟩ : Addr).add j) = some u := by
            rw [hwb]; exact World.news_of_block (cs := #[u5]) (heap_new wr (.cells #[u5] 27))
          have hws : wb.heap.size = wr.heap.size + 1 := by rw [hwb]; simp
          have hbase : H + 3 ≤ wb.heap.size := by have := heap_lt HB.out.bS; omega
          have HWB : Hd (wb = wr.alloc (.cells #[u5] 27)) := hwb
          have HUL : Hd (us.length = k) := HU.out
          have hUL : us.length + 1 ≤ 9 := by have := HU.out; omega
          have hdj2 : decide (j < r) = false := by simpa using hltj
          clear hwb hFb hjr hj HO HF HR7
          subst erv
          subst eu
          go_upto_region 6 with ((at_builtin; refine Hd.out ?_))
          rw [← HWB.out]
          clear HWB
          unfold Hd
          refine wpList_append_lies _ rfl (.tmp 47) (.tmp 49) 34 rfl (H + 3) 27 i27 (.slice none 0 0) 1 24 under34 hi27 hz27 hs27 hb27 rfl (by omega) (.slice ra us.length rc) us.length _ rfl HB.out.ol ⟨wr.heap.size, 0, none⟩ 1 1 [.slice ua r uc] rfl rfl hnews (by intro u hu; simp at hu; subst hu; rfl) (by omega) (by unfold maxLen; omega) (by omega) hbase (wr.heap.size + 1) hws ?_
          intro g8 cap8 w8 hown8 hgrow8 hat8 hlt8
          have bb := ((grown_fr hgrow8).block (H + 2) (heap_lt HB.out.bS) (fun e => by have := (World.ownsRow.lt HB.out.ol _ e).1; omega)).trans HB.out.bS
          have y1 : w8.cell? ⟨H + 2, 1, none⟩ = some (.slice ra us.length rc) := by rw [cell_of bb]; rfl
          have z1 := frozen_of bb 1
          have HR9 : Hd (RL w (w8.setCell ⟨H + 2, 1, none⟩ (.slice (some ⟨g8, 0, none⟩) (us.length + 1) cap8)) H (.cells #[vI p, vI r, vI V, .slice a n c] 32) r (k + 1) (.slice (some ⟨g6, 0, none⟩) (k + 1) cap6) (.slice (some ⟨g8, 0, none⟩) (us.length + 1) cap8) (us ++ [.slice ua r uc])) := HB.out.rvGrown HH.out HUb.out HAP.out hgrow8 hown8
          have HUL2 : Hd ((us ++ [Value.slice ua r uc]).length = k + 1) := by unfold Hd; rw [List.length_append, HUL.out]; rfl
          clear hown8 hgrow8 hat8 hlt8 HB hnews hws hbase HR8 x1 c1 bb HUb HAP HO2
          go_wp2_with fail
          exact ⟨⟨k + 1, _, _, _, by simp, by omega, HUL2.out, HR9.out⟩, by simp; omega⟩
    · have hke : k = p := by omega
      subst hke
      obtain ⟨ha, hc, ehv⟩ : ∃ ha hc, hv = .slice ha k hc := by
        rcases HRL.out.oh.2 with ⟨e, e2⟩ | ⟨g, cap, cur, e, -⟩
        · exact ⟨none, 0, by rw [e, e2]⟩
        · exact ⟨_, _, e⟩
      obtain ⟨ra, rc, erv⟩ : ∃ ra rc, rv = .slice ra k rc := by
        rcases HRL.out.ol.2 with ⟨e, e2⟩ | ⟨g, cap, cur, e, -⟩
        · exact ⟨none, 0, by rw [e]; rw [HU.out] at e2; rw [e2]⟩
        · rw [HU.out] at e; exact ⟨_, _, e⟩
      have x0 : wr.cell? ⟨H + 2, 0, none⟩ = some hv := by rw [cell_of HRL.out.bS]; rfl
      have x1 : wr.cell? ⟨H + 2, 1, none⟩ = some rv := by rw [cell_of HRL.out.bS]; rfl
      have y0 : wr.cell? ⟨H + 1, 0, none⟩ = some (.slice none 0 0) := by rw [cell_of HRL.out.bR]; rfl
      have y1 : wr.cell? ⟨H + 1, 1, none⟩ = some (.slice none 0 0) := by rw [cell_of HRL.out.bR]; rfl
      have z0 := frozen_of HRL.out.bR 0
      have z1 := frozen_of HRL.out.bR 1
      have HZ : Hd (((wr.setCell ⟨H + 1, 0, none⟩ hv).setCell ⟨H + 1, 1, none⟩ rv).heap[H + 1]? = some (.cells #[hv, rv] 36)) := set_of (set_of HRL.out.bR 0 _) 1 _
      have f : Fr (fun j => j = H + 1) wr ((wr.setCell ⟨H + 1, 0, none⟩ hv).setCell ⟨H + 1, 1, none⟩ rv) := (setCell_fr wr (H + 1) 0 _).trans (setCell_fr _ (H + 1) 1 _)
      have HFz : Hd (Fr (fun _ => False) w ((wr.setCell ⟨H + 1, 0, none⟩ hv).setCell ⟨H + 1, 1, none⟩ rv)) := HRL.out.fr.then f (fun j hj e => by have := HH.out; omega)
      have HI : Hd (IA ((wr.setCell ⟨H + 1, 0, none⟩ hv).setCell ⟨H + 1, 1, none⟩ rv) hv (lowH k r)) := by
        unfold Hd
        rw [show lowH (k : Int) (r : Int) = List.replicate k 9 by unfold lowH; rw [if_pos (by unfold LowOk; omega)]; simp]
        have h1 : IOwn wr (H + 3) hv (List.replicate k 9) := by unfold IOwn; rw [List.map_replicate, List.length_replicate]; exact HRL.out.oh
        exact (h1.fr f (fun j e e2 => by have := (h1.ge j e).1; omega)).ia
      have HIB : Hd (∀ b, hv.ownBlock = some b → w.heap.size ≤ b) := fun b e => by have := (World.ownsRow.lt HRL.out.oh b e).1; have := HH.out; omega
      have HL : Hd (LAB ((wr.setCell ⟨H + 1, 0, none⟩ hv).setCell ⟨H + 1, 1, none⟩ rv) w.heap.size rv (lowL k r)) := by
        unfold Hd
        rw [show lowL (k : Int) (r : Int) = List.replicate k (List.replicate r 9) by unfold lowL; rw [if_pos (by unfold LowOk; omega)]; simp]
        have hol := ownsRow_fr HRL.out.ol f (fun j e e2 => by have := (World.ownsRow.lt HRL.out.ol j e).1; omega)
        refine ⟨ra, rc, by rw [List.length_replicate]; exact erv, fun hne => ?_⟩
        have hk0 : 0 < us.length := by
          rw [HU.out]
          rcases Nat.eq_zero_or_pos k with h0 | h0
          · exfalso; apply hne; rw [h0]; rfl
          · exact h0
        obtain ⟨g, cap, e, hgl, -⟩ := own_cell hol (j := 0) (u := us[0]) (List.getElem?_eq_getElem hk0)
        have hgB := fun b eb => (World.ownsRow.lt hol b eb).1
        rw [erv, HU.out] at e
        cases e
        refine ⟨g, 0, rfl, by have := hgB g (by rw [erv]; rfl); have := HH.out; omega, hgl, fun j hj => ?_⟩
        have hj' : j < us.length := by rw [HU.out]; simpa using hj
        obtain ⟨g', cap', e', -, hc⟩ := own_cell hol (j := j) (u := us[j]) (List.getElem?_eq_getElem hj')
        rw [erv, HU.out] at e'
        cases e'
        have hi := HRL.out.each us[j] (List.getElem_mem hj')
        refine ⟨us[j], by rw [Nat.zero_add]; exact hc, ?_, fun b eb => by have := (hi.ge b eb).1; have := HH.out; omega⟩
        simp only [List.getElem_replicate]
        exact (hi.fr f (fun j e e2 => by have := (hi.ge j e).1; omega)).ia
      clear f HRL
      subst ehv
      subst erv
      go_wp2_with fail
      generalize (wr.setCell ⟨H + 1, 0, none⟩ (.slice ha k hc)).setCell ⟨H + 1, 1, none⟩ (.slice ra k rc) = wz at *
      have e0 : wz.cell? ⟨H + 1, 0, none⟩ = some (.slice ha k hc) := by rw [cell_of HZ.out]; rfl
      have e1 : wz.cell? ⟨H + 1, 1, none⟩ = some (.slice ra k rc) := by rw [cell_of HZ.out]; rfl
      refine bodyPost_ret (v := .agg #[.slice ha k hc, .slice ra k rc]) ?_ rfl ⟨_, rfl, ⟨_, _, rfl, HI.out, HIB.out, HL.out⟩, HFz.out⟩
      rw [results_cell (p := 2) (ty := 36) Try.results9]
      simp [go_sem, e0, e1]

theorem rlowest_any (P R V : Int) (a : Option Addr) (n c : Nat) (w : World) :
    Calls Try.prog 9 #[.agg #[vI P, vI R, vI V, .slice a n c]] w fun e w' => ∃ v, e = .returned v ∧ LowA w' w.heap.size v P R ∧ Fr (fun _ => False) w w' := by
  by_cases h : LowOk P R
  · obtain ⟨h1, h2, h3, h4⟩ := h
    obtain ⟨p, rfl⟩ := Int.eq_ofNat_of_zero_le h1
    obtain ⟨r, rfl⟩ := Int.eq_ofNat_of_zero_le h3
    exact rlowest_in p r V a n c w (by omega) (by omega)
  · exact rlowest_out P R V a n c w h

end Go.Proofs.Ytdkijecnnmncnaa
