import Derived.Test.YtjmbfjaahadbhaaDoorQLjJ
set_option linter.unusedVariables false
set_option linter.unusedSimpArgs false
namespace Go.Proofs.YtjmbfjaahadbhaaDoor
open Go.RowKit (wrap32 wrap64)

/-! ### three functions, of which the first calls the others, the second the third -/
abbrev cI (n : Int) : PI := ⟨11, 0, 0, 0, n, [], []⟩
abbrev bI : PI := ⟨15, 0, 0, 0, 0, [], []⟩
def fs3 : List PF := [⟨0, 0, 0, [cI 1, cI 2, bI]⟩, ⟨0, 0, 0, [cI 2, bI]⟩, ⟨0, 0, 0, [bI]⟩]
theorem fs3_check : checkP 0 fs3 = 0 := by kernel_rfl
theorem fs3_cl : clX fs3 0 = [1, 2] ∧ clX fs3 1 = [2] ∧ ∀ x, 2 ≤ x → clX fs3 x = [] := by
  refine ⟨rfl, rfl, fun x hx => ?_⟩
  by_cases e : x = 2
  · rw [e]; rfl
  · unfold clX
    rw [List.getElem?_eq_none (by show 3 ≤ x; omega)]
    rfl
theorem rch_up {cl : Nat → List Nat} (h : ∀ x, ∀ z ∈ cl x, x < z) {x y : Nat} (k : Rch cl x y) : x ≤ y := by
  induction k with
  | refl => exact Nat.le_refl _
  | step _ m ih => have := h _ _ m; omega
theorem fs3_up : ∀ x, ∀ z ∈ clX fs3 x, x < z := by
  obtain ⟨h0, h1, h2⟩ := fs3_cl
  intro x z hz
  by_cases e0 : x = 0
  · rw [e0, h0] at hz; simp at hz; omega
  · by_cases e1 : x = 1
    · rw [e1, h1] at hz; simp at hz; omega
    · rw [h2 x (by omega)] at hz; cases hz
theorem fs3_graph {n : Nat} {of : Nat → Nat} (h : Gp 3 (clX fs3) n of) : n = 3 ∧ of 2 = 0 ∧ of 1 = 1 ∧ of 0 = 2 ∧ cleX 3 3 of (clX fs3) 2 = [0, 1] ∧ clrX 3 3 of (clX fs3) 0 = [1, 2] := by
  obtain ⟨l0, l1, l2⟩ := fs3_cl
  have r01 : Rch (clX fs3) 0 1 := .step (.refl 0) (by rw [l0]; simp)
  have r12 : Rch (clX fs3) 1 2 := .step (.refl 1) (by rw [l1]; simp)
  have d1 := h.dn 0 1 (by omega) (by omega) r01
  have d2 := h.dn 1 2 (by omega) (by omega) r12
  have n1 : of 0 ≠ of 1 := fun e => by
    have := rch_up fs3_up ((h.eq 0 1 (by omega) (by omega)).1 e).2
    omega
  have n2 : of 1 ≠ of 2 := fun e => by
    have := rch_up fs3_up ((h.eq 1 2 (by omega) (by omega)).1 e).2
    omega
  have b0 := h.lt 0 (by omega)
  have on : ∀ c, c < n → c = of 0 ∨ c = of 1 ∨ c = of 2 := fun c hc => by
    obtain ⟨x, hx, e⟩ := h.on c hc
    have : x = 0 ∨ x = 1 ∨ x = 2 := by omega
    rcases this with e2 | e2 | e2 <;> subst e2 <;> omega
  have o0 := on 0 (by omega)
  have o1 := on (n - 1) (by omega)
  have o2 := on 1 (by omega)
  have o3 := on 2 (by omega)
  have hn : n = 3 := by
    by_cases e : n = 3
    · exact e
    · have := on 3
      omega
  subst hn
  have e2 : of 2 = 0 := by omega
  have e1 : of 1 = 1 := by omega
  have e0 : of 0 = 2 := by omega
  have h20 : hitX 3 of (clX fs3) 2 0 = true := hitX_iff.2 ⟨0, by omega, e0, 2, by rw [l0]; simp, e2⟩
  have h21 : hitX 3 of (clX fs3) 2 1 = true := hitX_iff.2 ⟨0, by omega, e0, 1, by rw [l0]; simp, e1⟩
  have h10 : hitX 3 of (clX fs3) 1 0 = true := hitX_iff.2 ⟨1, by omega, e1, 2, by rw [l1]; simp, e2⟩
  refine ⟨rfl, e2, e1, e0, ?_, ?_⟩
  · simp [cleX, List.range_succ, h20, h21]
  · simp [clrX, List.range_succ, h20, h10]
abbrev iV (op n : Int) : Value := .agg #[vI op, vI 0, vI 0, vI 0, vI n, .slice none 0 0, .slice none 0 0]
set_option maxRecDepth 100000 in
set_option maxHeartbeats 1000000 in
theorem back_any (w : World) : Calls Tryd.prog 8 #[] w fun e w' => e = .returned (iV 15 0) ∧ Fr (fun _ => False) w w' := by
  have hb : (w.alloc (.cells #[vI 15, vI 0, vI 0, vI 0, vI 0, .slice none 0 0, .slice none 0 0] 27)).heap[w.heap.size]? = some (.cells #[vI 15, vI 0, vI 0, vI 0, vI 0, .slice none 0 0, .slice none 0 0] 27) := heap_new0 w _
  have HF : Hd (Fr (fun _ => False) w (w.alloc (.cells #[vI 15, vI 0, vI 0, vI 0, vI 0, .slice none 0 0, .slice none 0 0] 27))) := Fr.alloc (Fr.refl _ w) _
  have HB : Hd ((w.alloc (.cells #[vI 15, vI 0, vI 0, vI 0, vI 0, .slice none 0 0, .slice none 0 0] 27)).heap[w.heap.size]? = some (.cells #[vI 15, vI 0, vI 0, vI 0, vI 0, .slice none 0 0, .slice none 0 0] 27)) := hb
  clear hb
  go_enter Tryd.func8, Tryd.ntmps8
  go_wp2_with fail
  generalize w.alloc (.cells #[vI 15, vI 0, vI 0, vI 0, vI 0, .slice none 0 0, .slice none 0 0] 27) = wz at *
  generalize w.heap.size = X at *
  have e0 : wz.cell? ⟨X, 0, none⟩ = some (vI 15) := by rw [cell_of0 HB.out]; rfl
  have e1 : wz.cell? ⟨X, 1, none⟩ = some (vI 0) := by rw [cell_of0 HB.out]; rfl
  have e2 : wz.cell? ⟨X, 2, none⟩ = some (vI 0) := by rw [cell_of0 HB.out]; rfl
  have e3 : wz.cell? ⟨X, 3, none⟩ = some (vI 0) := by rw [cell_of0 HB.out]; rfl
  have e4 : wz.cell? ⟨X, 4, none⟩ = some (vI 0) := by rw [cell_of0 HB.out]; rfl
  have e5 : wz.cell? ⟨X, 5, none⟩ = some (.slice none 0 0) := by rw [cell_of0 HB.out]; rfl
  have e6 : wz.cell? ⟨X, 6, none⟩ = some (.slice none 0 0) := by rw [cell_of0 HB.out]; rfl
  refine bodyPost_ret (v := iV 15 0) ?_ rfl ⟨rfl, HF.out⟩
  rw [results_cell (p := 0) (ty := 27) Tryd.results8]
  simp [go_sem, e0, e1, e2, e3, e4, e5, e6]
set_option maxRecDepth 100000 in
set_option maxHeartbeats 1000000 in
theorem lcall_any (g : Int) (w : World) : Calls Tryd.prog 9 #[vI g] w fun e w' => e = .returned (iV 11 g) ∧ Fr (fun _ => False) w w' := by
  have hb : (w.alloc (.cells #[vI 11, vI 0, vI 0, vI 0, vI g, .slice none 0 0, .slice none 0 0] 27)).heap[w.heap.size]? = some (.cells #[vI 11, vI 0, vI 0, vI 0, vI g, .slice none 0 0, .slice none 0 0] 27) := heap_new0 w _
  have HF : Hd (Fr (fun _ => False) w (w.alloc (.cells #[vI 11, vI 0, vI 0, vI 0, vI g, .slice none 0 0, .slice none 0 0] 27))) := Fr.alloc (Fr.refl _ w) _
  have HB : Hd ((w.alloc (.cells #[vI 11, vI 0, vI 0, vI 0, vI g, .slice none 0 0, .slice none 0 0] 27)).heap[w.heap.size]? = some (.cells #[vI 11, vI 0, vI 0, vI 0, vI g, .slice none 0 0, .slice none 0 0] 27)) := hb
  clear hb
  go_enter Tryd.func9, Tryd.ntmps9
  go_wp2_with fail
  generalize w.alloc (.cells #[vI 11, vI 0, vI 0, vI 0, vI g, .slice none 0 0, .slice none 0 0] 27) = wz at *
  generalize w.heap.size = X at *
  have e0 : wz.cell? ⟨X, 0, none⟩ = some (vI 11) := by rw [cell_of0 HB.out]; rfl
  have e1 : wz.cell? ⟨X, 1, none⟩ = some (vI 0) := by rw [cell_of0 HB.out]; rfl
  have e2 : wz.cell? ⟨X, 2, none⟩ = some (vI 0) := by rw [cell_of0 HB.out]; rfl
  have e3 : wz.cell? ⟨X, 3, none⟩ = some (vI 0) := by rw [cell_of0 HB.out]; rfl
  have e4 : wz.cell? ⟨X, 4, none⟩ = some (vI g) := by rw [cell_of0 HB.out]; rfl
  have e5 : wz.cell? ⟨X, 5, none⟩ = some (.slice none 0 0) := by rw [cell_of0 HB.out]; rfl
  have e6 : wz.cell? ⟨X, 6, none⟩ = some (.slice none 0 0) := by rw [cell_of0 HB.out]; rfl
  refine bodyPost_ret (v := iV 11 g) ?_ rfl ⟨rfl, HF.out⟩
  rw [results_cell (p := 2) (ty := 27) Tryd.results9]
  simp [go_sem, e0, e1, e2, e3, e4, e5, e6]
theorem ia_nil (w : World) : IA w (.slice none 0 0) [] := ⟨none, 0, rfl, fun h => absurd rfl h⟩
theorem ca_lit {w : World} {k : Nat} {cs : List PI} {arr : Array Value} (h : w.heap[k]? = some (.cells arr 27)) (hc : ∀ j (h : j < cs.length), arr[j * 7]? = some (vI cs[j].op) ∧ arr[j * 7 + 1]? = some (vI cs[j].r) ∧ arr[j * 7 + 2]? = some (vI cs[j].s) ∧ arr[j * 7 + 3]? = some (vI cs[j].t) ∧ arr[j * 7 + 4]? = some (vI cs[j].n) ∧ arr[j * 7 + 5]? = some (.slice none 0 0) ∧ arr[j * 7 + 6]? = some (.slice none 0 0) ∧ cs[j].args = [] ∧ cs[j].rets = []) : CA w (.slice (some ⟨k, 0, none⟩) cs.length cs.length) cs := by
  refine ⟨_, cs.length, rfl, fun _ => ⟨k, 0, rfl, heap_lt0 h, fun j hj => ?_⟩⟩
  obtain ⟨h0, h1, h2, h3, h4, h5, h6, h7, h8⟩ := hc j hj
  have m : ∀ o, w.cell? ⟨k, 0 + o, none⟩ = arr[o]? := fun o => by rw [Nat.zero_add, cell_of0 h]
  refine ⟨.slice none 0 0, .slice none 0 0, (m _).trans h0, (m (j * 7 + 1)).trans h1, (m (j * 7 + 2)).trans h2, (m (j * 7 + 3)).trans h3, (m (j * 7 + 4)).trans h4, (m (j * 7 + 5)).trans h5, (m (j * 7 + 6)).trans h6, ?_, ?_⟩
  · rw [h7]; exact ia_nil w
  · rw [h8]; exact ia_nil w
abbrev iC (op n : Int) : List Value := [vI op, vI 0, vI 0, vI 0, vI n, .slice none 0 0, .slice none 0 0]
theorem fs3_fa {w : World} {k0 k1 k2 kf : Nat} (h0 : w.heap[k0]? = some (.cells #[vI 11, vI 0, vI 0, vI 0, vI 1, .slice none 0 0, .slice none 0 0, vI 11, vI 0, vI 0, vI 0, vI 2, .slice none 0 0, .slice none 0 0, vI 15, vI 0, vI 0, vI 0, vI 0, .slice none 0 0, .slice none 0 0] 27)) (h1 : w.heap[k1]? = some (.cells #[vI 11, vI 0, vI 0, vI 0, vI 2, .slice none 0 0, .slice none 0 0, vI 15, vI 0, vI 0, vI 0, vI 0, .slice none 0 0, .slice none 0 0] 27)) (h2 : w.heap[k2]? = some (.cells #[vI 15, vI 0, vI 0, vI 0, vI 0, .slice none 0 0, .slice none 0 0] 27))
    (hf : w.heap[kf]? = some (.cells #[vI 0, vI 0, vI 0, .slice (some ⟨k0, 0, none⟩) 3 3, vI 0, vI 0, vI 0, .slice (some ⟨k1, 0, none⟩) 2 2, vI 0, vI 0, vI 0, .slice (some ⟨k2, 0, none⟩) 1 1] 32)) : FA w (.slice (some ⟨kf, 0, none⟩) 3 3) fs3 := by
  have c0 : CA w (.slice (some ⟨k0, 0, none⟩) 3 3) [cI 1, cI 2, bI] := ca_lit (cs := [cI 1, cI 2, bI]) h0 (fun j hj => by
    have : j = 0 ∨ j = 1 ∨ j = 2 := by simp at hj; omega
    rcases this with rfl | rfl | rfl <;> exact ⟨rfl, rfl, rfl, rfl, rfl, rfl, rfl, rfl, rfl⟩)
  have c1 : CA w (.slice (some ⟨k1, 0, none⟩) 2 2) [cI 2, bI] := ca_lit (cs := [cI 2, bI]) h1 (fun j hj => by
    have : j = 0 ∨ j = 1 := by simp at hj; omega
    rcases this with rfl | rfl <;> exact ⟨rfl, rfl, rfl, rfl, rfl, rfl, rfl, rfl, rfl⟩)
  have c2 : CA w (.slice (some ⟨k2, 0, none⟩) 1 1) [bI] := ca_lit (cs := [bI]) h2 (fun j hj => by
    have : j = 0 := by simp at hj; omega
    subst this
    exact ⟨rfl, rfl, rfl, rfl, rfl, rfl, rfl, rfl, rfl⟩)
  refine ⟨_, 3, rfl, fun _ => ⟨kf, 0, rfl, heap_lt0 hf, fun j hj => ?_⟩⟩
  have m : ∀ o, w.cell? ⟨kf, 0 + o, none⟩ = (#[vI 0, vI 0, vI 0, .slice (some ⟨k0, 0, none⟩) 3 3, vI 0, vI 0, vI 0, .slice (some ⟨k1, 0, none⟩) 2 2, vI 0, vI 0, vI 0, .slice (some ⟨k2, 0, none⟩) 1 1] : Array Value)[o]? := fun o => by rw [Nat.zero_add, cell_of0 hf]
  have : j = 0 ∨ j = 1 ∨ j = 2 := by simp [fs3] at hj; omega
  rcases this with rfl | rfl | rfl
  · exact ⟨_, m 0, m 1, m 2, m 3, c0⟩
  · exact ⟨_, m 4, m 5, m 6, m 7, c1⟩
  · exact ⟨_, m 8, m 9, m 10, m 11, c2⟩
theorem fs3_fine : FineP fs3 := by
  refine ⟨by simp [fs3], fun f hf => ?_⟩
  simp [fs3] at hf
  rcases hf with rfl | rfl | rfl <;> refine ⟨by simp, fun c hc => ?_⟩ <;> simp at hc
  · rcases hc with rfl | rfl | rfl <;> simp
  · rcases hc with rfl | rfl <;> simp
  · subst hc; simp
set_option maxRecDepth 100000 in
set_option maxHeartbeats 4000000 in
theorem lives_any (w : World) (hT : Tab w) (h0 : 0 < w.heap.size) : Calls Tryd.prog 18 #[] w fun e w' => e = .returned (.bool true) ∧ Fr (fun _ => False) w w' := by
  have HT : Hd (Tab w ∧ 0 < w.heap.size) := ⟨hT, h0⟩
  clear hT h0
  go_enter Tryd.func18, Tryd.ntmps18
  go_wp2_with fail
  refine (lcall_any 1 w).mono ?_
  rintro e w1 ⟨rfl, hF1⟩
  have HF1 : Hd (Fr (fun _ => False) w w1) := hF1
  clear hF1
  go_wp2_with fail
  refine (lcall_any 2 w1).mono ?_
  rintro e w2 ⟨rfl, hF2⟩
  have HF2 : Hd (Fr (fun _ => False) w w2) := HF1.out.trans hF2
  clear hF2 HF1
  go_wp2_with fail
  refine (back_any w2).mono ?_
  rintro e w3 ⟨rfl, hF3⟩
  have HF3 : Hd (Fr (fun _ => False) w w3) := HF2.out.trans hF3
  clear hF3 HF2
  go_wp2_with fail
  obtain ⟨k0, hk0⟩ : ∃ k0, k0 = w3.heap.size := ⟨_, rfl⟩
  have hb0 := heap_new0 w3 (.cells #[vI 11, vI 0, vI 0, vI 0, vI 1, .slice none 0 0, .slice none 0 0, vI 11, vI 0, vI 0, vI 0, vI 2, .slice none 0 0, .slice none 0 0, vI 15, vI 0, vI 0, vI 0, vI 0, .slice none 0 0, .slice none 0 0] 27)
  have hG0 : Fr (fun _ => False) w (w3.alloc (.cells #[vI 11, vI 0, vI 0, vI 0, vI 1, .slice none 0 0, .slice none 0 0, vI 11, vI 0, vI 0, vI 0, vI 2, .slice none 0 0, .slice none 0 0, vI 15, vI 0, vI 0, vI 0, vI 0, .slice none 0 0, .slice none 0 0] 27)) := HF3.out.alloc _
  rw [← hk0] at hb0 ⊢
  generalize w3.alloc (.cells #[vI 11, vI 0, vI 0, vI 0, vI 1, .slice none 0 0, .slice none 0 0, vI 11, vI 0, vI 0, vI 0, vI 2, .slice none 0 0, .slice none 0 0, vI 15, vI 0, vI 0, vI 0, vI 0, .slice none 0 0, .slice none 0 0] 27) = w4 at *
  have HB0 : Hd (w4.heap[k0]? = some (.cells #[vI 11, vI 0, vI 0, vI 0, vI 1, .slice none 0 0, .slice none 0 0, vI 11, vI 0, vI 0, vI 0, vI 2, .slice none 0 0, .slice none 0 0, vI 15, vI 0, vI 0, vI 0, vI 0, .slice none 0 0, .slice none 0 0] 27)) := hb0
  have HF4 : Hd (Fr (fun _ => False) w w4) := hG0
  clear hb0 hG0 hk0 HF3
  refine (lcall_any 2 w4).mono ?_
  rintro e w5 ⟨rfl, hF5⟩
  have HB05 : Hd (w5.heap[k0]? = _) := keepF HB0.out hF5
  have HF5 : Hd (Fr (fun _ => False) w w5) := HF4.out.trans hF5
  clear hF5 HF4 HB0
  go_wp2_with fail
  refine (back_any w5).mono ?_
  rintro e w6 ⟨rfl, hF6⟩
  have HB06 : Hd (w6.heap[k0]? = _) := keepF HB05.out hF6
  have HF6 : Hd (Fr (fun _ => False) w w6) := HF5.out.trans hF6
  clear hF6 HF5 HB05
  go_wp2_with fail
  obtain ⟨k1, hk1⟩ : ∃ k1, k1 = w6.heap.size := ⟨_, rfl⟩
  have hb1 := heap_new0 w6 (.cells #[vI 11, vI 0, vI 0, vI 0, vI 2, .slice none 0 0, .slice none 0 0, vI 15, vI 0, vI 0, vI 0, vI 0, .slice none 0 0, .slice none 0 0] 27)
  have hG1 : Fr (fun _ => False) w6 (w6.alloc (.cells #[vI 11, vI 0, vI 0, vI 0, vI 2, .slice none 0 0, .slice none 0 0, vI 15, vI 0, vI 0, vI 0, vI 0, .slice none 0 0, .slice none 0 0] 27)) := (Fr.refl _ _).alloc _
  rw [← hk1] at hb1 ⊢
  generalize w6.alloc (.cells #[vI 11, vI 0, vI 0, vI 0, vI 2, .slice none 0 0, .slice none 0 0, vI 15, vI 0, vI 0, vI 0, vI 0, .slice none 0 0, .slice none 0 0] 27) = w7 at *
  have HB07 : Hd (w7.heap[k0]? = _) := keepF HB06.out hG1
  have HB17 : Hd (w7.heap[k1]? = _) := hb1
  have HF7 : Hd (Fr (fun _ => False) w w7) := HF6.out.trans hG1
  clear hb1 hG1 hk1 HF6 HB06
  refine (back_any w7).mono ?_
  rintro e w8 ⟨rfl, hF8⟩
  have HB08 : Hd (w8.heap[k0]? = _) := keepF HB07.out hF8
  have HB18 : Hd (w8.heap[k1]? = _) := keepF HB17.out hF8
  have HF8 : Hd (Fr (fun _ => False) w w8) := HF7.out.trans hF8
  clear hF8 HF7 HB07 HB17
  go_upto_region 2 with fail
  obtain ⟨k2, hk2⟩ : ∃ k2, k2 = w8.heap.size := ⟨_, rfl⟩
  obtain ⟨wx, hwx⟩ : ∃ wx, wx = w8.alloc (.cells #[vI 15, vI 0, vI 0, vI 0, vI 0, .slice none 0 0, .slice none 0 0] 27) := ⟨_, rfl⟩
  obtain ⟨wy, hwy⟩ : ∃ wy, wy = wx.alloc (.cells #[vI 0, vI 0, vI 0, .slice (some ⟨k0, 0, none⟩) 3 3, vI 0, vI 0, vI 0, .slice (some ⟨k1, 0, none⟩) 2 2, vI 0, vI 0, vI 0, .slice (some ⟨k2, 0, none⟩) 1 1] 32) := ⟨_, rfl⟩
  obtain ⟨wz, hwz⟩ : ∃ wz, wz = wy.alloc (.cells #[vI 0, .slice (some ⟨k2 + 1, 0, none⟩) 3 3] 24) := ⟨_, rfl⟩
  have fx : Fr (fun _ => False) w8 wx := by rw [hwx]; exact (Fr.refl _ _).alloc _
  have fy : Fr (fun _ => False) wx wy := by rw [hwy]; exact (Fr.refl _ _).alloc _
  have fz : Fr (fun _ => False) wy wz := by rw [hwz]; exact (Fr.refl _ _).alloc _
  have sx : wx.heap.size = k2 + 1 := by rw [hwx, World.size_alloc, hk2]
  have sy : wy.heap.size = k2 + 2 := by rw [hwy, World.size_alloc, sx]
  have b2 : wx.heap[k2]? = some (.cells #[vI 15, vI 0, vI 0, vI 0, vI 0, .slice none 0 0, .slice none 0 0] 27) := by rw [hwx, hk2]; exact heap_new0 w8 _
  have bf : wy.heap[k2 + 1]? = some (.cells #[vI 0, vI 0, vI 0, .slice (some ⟨k0, 0, none⟩) 3 3, vI 0, vI 0, vI 0, .slice (some ⟨k1, 0, none⟩) 2 2, vI 0, vI 0, vI 0, .slice (some ⟨k2, 0, none⟩) 1 1] 32) := by rw [hwy, ← sx]; exact heap_new0 wx _
  have bp : wz.heap[k2 + 2]? = some (.cells #[vI 0, .slice (some ⟨k2 + 1, 0, none⟩) 3 3] 24) := by rw [hwz, ← sy]; exact heap_new0 wy _
  have hfa : FA wz (.slice (some ⟨k2 + 1, 0, none⟩) 3 3) fs3 := fs3_fa (keepF (keepF (keepF HB08.out fx) fy) fz) (keepF (keepF (keepF HB18.out fx) fy) fz) (keepF (keepF b2 fy) fz) (keepF bf fz)
  have HFZ : Hd (Fr (fun _ => False) w wz) := HF8.out.trans ((fx.trans fy).trans fz)
  have HNW : Hd (Calls Tryd.prog 10 #[.agg #[vI 0, .slice (some ⟨k2 + 1, 0, none⟩) 3 3]] wz (NwE 0 fs3 wz)) := new_any 0 fs3 _ wz hfa fs3_fine (HT.out.1.fr HFZ.out (fun e => e)) (Nat.lt_of_lt_of_le HT.out.2 HFZ.out.size)
  have c0 : wz.cell? ⟨k2 + 2, 0, none⟩ = some (vI 0) := by rw [cell_of0 bp]; rfl
  have c1 : wz.cell? ⟨k2 + 2, 1, none⟩ = some (.slice (some ⟨k2 + 1, 0, none⟩) 3 3) := by rw [cell_of0 bp]; rfl
  have HWZ : Hd (wz = ((w8.alloc (.cells #[vI 15, vI 0, vI 0, vI 0, vI 0, .slice none 0 0, .slice none 0 0] 27)).alloc (.cells #[vI 0, vI 0, vI 0, .slice (some ⟨k0, 0, none⟩) 3 3, vI 0, vI 0, vI 0, .slice (some ⟨k1, 0, none⟩) 2 2, vI 0, vI 0, vI 0, .slice (some ⟨k2, 0, none⟩) 1 1] 32)).alloc (.cells #[vI 0, .slice (some ⟨k2 + 1, 0, none⟩) 3 3] 24)) := by unfold Hd; rw [hwz, hwy, hwx]
  rw [← hk2]
  have eW : ∀ W, W = wz → W = wz := fun W e => e
  clear hwx hwy hwz fx fy fz sx sy b2 bf bp hfa HB08 HB18 HF8
  show Code.wp _ _ _ _ (((w8.alloc (.cells #[vI 15, vI 0, vI 0, vI 0, vI 0, .slice none 0 0, .slice none 0 0] 27)).alloc (.cells #[vI 0, vI 0, vI 0, .slice (some ⟨k0, 0, none⟩) 3 3, vI 0, vI 0, vI 0, .slice (some ⟨k1, 0, none⟩) 2 2, vI 0, vI 0, vI 0, .slice (some ⟨k2, 0, none⟩) 1 1] 32)).alloc (.cells #[vI 0, .slice (some ⟨k2 + 1, 0, none⟩) 3 3] 24))
  rw [← HWZ.out]
  clear HWZ hk2 eW
  go_wp2_with fail
  refine Calls.mono HNW.out ?_
  rintro e w9 ⟨hF9, hcase⟩
  rcases hcase with ⟨hne, -⟩ | ⟨-, b, n, of, rfl, hgr, hgp, -⟩
  · exact absurd fs3_check hne
  obtain ⟨go, gm, ge, gr, mv, ev, rv, -, -, -, -, -, hga⟩ := hgr
  obtain ⟨rfl, o2, o1, o0, hce, hcr⟩ := fs3_graph hgp
  have HGA : Hd (GA w9 wz.heap.size b go gm ge gr 3 3 mv ev rv of (clX fs3)) := hga
  have HF9 : Hd (Fr (fun _ => False) w w9) := HFZ.out.trans hF9
  have HLN : Hd (Calls Tryd.prog 12 #[.pointer (some ⟨b, 0, none⟩)] w9 fun e w' => e = .returned (vI 3) ∧ w' = w9) := glen_any w9 hga (by decide)
  have HO2 : Hd (Calls Tryd.prog 13 #[.pointer (some ⟨b, 0, none⟩), vI 2] w9 fun e w' => e = .returned (vI 0) ∧ w' = w9) := by
    have := of_any 2 hga (by show 2 < 3; omega) (by show 3 ≤ _; omega)
    rw [o2] at this
    exact this
  have HO1 : Hd (Calls Tryd.prog 13 #[.pointer (some ⟨b, 0, none⟩), vI 1] w9 fun e w' => e = .returned (vI 1) ∧ w' = w9) := by
    have := of_any 1 hga (by show 1 < 3; omega) (by show 3 ≤ _; omega)
    rw [o1] at this
    exact this
  have HO0 : Hd (Calls Tryd.prog 13 #[.pointer (some ⟨b, 0, none⟩), vI 0] w9 fun e w' => e = .returned (vI 2) ∧ w' = w9) := by
    have := of_any 0 hga (by show 0 < 3; omega) (by show 3 ≤ _; omega)
    rw [o0] at this
    exact this
  have HCE : Hd (Calls Tryd.prog 14 #[.pointer (some ⟨b, 0, none⟩), vI 2] w9 fun e w' => ∃ v', e = .returned v' ∧ IOwn w' w9.heap.size v' [0, 1] ∧ Fr (fun _ => False) w9 w') := by
    have := callees_any 2 hga (by decide) (by decide) (by show 3 ≤ _; omega)
    rw [show cleX fs3.length 3 of (clX fs3) 2 = [0, 1] from hce] at this
    exact this
  have HCR : Hd (∀ W, Fr (fun _ => False) w9 W → Calls Tryd.prog 15 #[.pointer (some ⟨b, 0, none⟩), vI 0] W fun e w' => ∃ v', e = .returned v' ∧ IOwn w' W.heap.size v' [1, 2] ∧ Fr (fun _ => False) W w') := fun W fW => by
    have := callers_any 0 (hga.stay fW) (by decide) (by decide) (by show 3 ≤ _; omega)
    rw [show clrX fs3.length 3 of (clX fs3) 0 = [1, 2] from hcr] at this
    exact this
  have e1 : (binOp .eql 33 (.pointer (some ⟨b, 0, none⟩)) (.pointer none)).run Tryd.prog w9 = .ok (.bool false) w9 := by first | rfl | kernel_rfl
  clear hga hgp o2 o1 o0 hce hcr hF9 HNW HFZ c0 c1
  go_wp2_with fail
  refine Calls.mono HLN.out ?_
  rintro e w10 ⟨rfl, rfl⟩
  clear HLN
  go_wp2_with fail
  refine Calls.mono HO2.out ?_
  rintro e w11 ⟨rfl, rfl⟩
  clear HO2
  go_wp2_with fail
  refine Calls.mono HO1.out ?_
  rintro e w12 ⟨rfl, rfl⟩
  clear HO1
  go_wp2_with fail
  refine Calls.mono HO0.out ?_
  rintro e w13 ⟨rfl, rfl⟩
  clear HO0
  go_wp2_with fail
  refine Calls.mono HCE.out ?_
  rintro e w14 ⟨v4, rfl, ho4, hF14⟩
  have hlit : ∀ (W : World) (x y : Int), IA (W.alloc (.cells #[vI x, vI y] 3)) (.slice (some ⟨W.heap.size, 0, none⟩) 2 2) [x, y] := fun W x y => by
    refine ⟨_, 2, rfl, fun _ => ⟨W.heap.size, 0, rfl, by rw [World.size_alloc]; omega, fun j hj => ?_⟩⟩
    have hb := heap_new0 W (.cells #[vI x, vI y] 3)
    have : j = 0 ∨ j = 1 := by simp at hj; omega
    rcases this with rfl | rfl <;> (rw [cell_of0 hb]; rfl)
  have HF14 : Hd (Fr (fun _ => False) w14 (w14.alloc (.cells #[vI 0, vI 1] 3))) := (Fr.refl _ _).alloc _
  have HEQ1 : Hd (Calls Tryd.prog 36 #[v4, .slice (some ⟨w14.heap.size, 0, none⟩) 2 2] (w14.alloc (.cells #[vI 0, vI 1] 3)) fun e w' => e = .returned (.bool true) ∧ Fr (fun _ => False) (w14.alloc (.cells #[vI 0, vI 1] 3)) w') := by
    have := eqInts_same v4 (.slice (some ⟨w14.heap.size, 0, none⟩) 2 2) [0, 1] (w14.alloc (.cells #[vI 0, vI 1] 3)) (ho4.ia.stay HF14.out) (hlit w14 0 1) (by simp)
    exact this
  have HFA : Hd (Fr (fun _ => False) w14 w14) := Fr.refl _ _
  have HF15 : Hd (Fr (fun _ => False) w13 w14) := hF14
  have HLIT : Hd (∀ (W : World) (x y : Int), IA (W.alloc (.cells #[vI x, vI y] 3)) (.slice (some ⟨W.heap.size, 0, none⟩) 2 2) [x, y]) := hlit
  obtain ⟨va, vc, ev4⟩ := iown_cap ho4
  subst ev4
  clear ho4 hF14 hlit HCE
  go_wp2_with fail
  refine Calls.mono (show Calls Tryd.prog 36 #[.slice va 2 vc, .slice (some ⟨w14.heap.size, 0, none⟩) 2 2] (w14.alloc (.cells #[vI 0, vI 1] 3)) _ from HEQ1.out) ?_
  rintro e w16 ⟨rfl, hF16⟩
  have HF16 : Hd (Fr (fun _ => False) w13 w16) := HF15.out.trans (HF14.out.trans hF16)
  have HC2 : Hd (Calls Tryd.prog 15 #[.pointer (some ⟨b, 0, none⟩), vI 0] w16 fun e w' => ∃ v', e = .returned v' ∧ IOwn w' w16.heap.size v' [1, 2] ∧ Fr (fun _ => False) w16 w') := HCR.out w16 HF16.out
  clear hF16 HEQ1 HCR HF14 HF15 HFA
  go_wp2_with fail
  refine Calls.mono HC2.out ?_
  rintro e w17 ⟨v5, rfl, ho5, hF17⟩
  have HF18 : Hd (Fr (fun _ => False) w17 (w17.alloc (.cells #[vI 1, vI 2] 3))) := (Fr.refl _ _).alloc _
  have HEQ2 := eqInts_same v5 (.slice (some ⟨w17.heap.size, 0, none⟩) 2 2) [1, 2] (w17.alloc (.cells #[vI 1, vI 2] 3)) (ho5.ia.stay HF18.out) (HLIT.out w17 1 2) (by simp)
  have HF17 : Hd (Fr (fun _ => False) w13 w17) := HF16.out.trans hF17
  obtain ⟨va5, vc5, ev5⟩ := iown_cap ho5
  subst ev5
  have HEQ3 : Hd (Calls Tryd.prog 36 #[.slice va5 2 vc5, .slice (some ⟨w17.heap.size, 0, none⟩) 2 2] (w17.alloc (.cells #[vI 1, vI 2] 3)) fun e w' => e = .returned (.bool true) ∧ Fr (fun _ => False) (w17.alloc (.cells #[vI 1, vI 2] 3)) w') := HEQ2
  clear ho5 hF17 HC2 HEQ2 HF16
  go_wp2_with fail
  refine Calls.mono HEQ3.out ?_
  rintro e w19 ⟨rfl, hF19⟩
  have HE : Hd (Fr (fun _ => False) w w19) := HF9.out.trans (HF17.out.trans (HF18.out.trans hF19))
  clear hF19 HEQ3
  go_wp2_with fail
  go_ret
  exact ⟨rfl, HE.out⟩

/-! ### who calls whom, as the statements see it -/
/-- Lists in a row that grows. -/
structure LOc (w : World) (B : Nat) (v : Value) (us : List Value) (ls : List (List Int)) : Prop where
  row : w.ownsRow B 25 1 v us.length us
  ul : us.length = ls.length
  each : ∀ i (h : i < us.length) (h' : i < ls.length), IOwn w B us[i] ls[i]
theorem LOc.stay {w w' : World} {B : Nat} {v : Value} {us : List Value} {ls : List (List Int)} (h : LOc w B v us ls) (f : Fr (fun _ => False) w w') : LOc w' B v us ls :=
  ⟨ownsRow_frL h.row f (fun _ _ e => e), h.ul, fun i hi hk => (h.each i hi hk).fr f (fun _ _ e => e)⟩
theorem LOc.grow {w w6 : World} {B g cap : Nat} {v x : Value} {us : List Value} {ls : List (List Int)} {l : List Int} (h : LOc w B v us ls) (hx : IOwn w B x l) (hg : w.grownBy w6 v.ownBlock) (ho : w6.ownsRow B 25 1 (.slice (some ⟨g, 0, none⟩) (us.length + 1) cap) (us.length + 1) (us ++ [x])) :
    LOc w6 B (.slice (some ⟨g, 0, none⟩) (us.length + 1) cap) (us ++ [x]) (ls ++ [l]) := by
  have f := grown_frL hg
  have ke : ∀ y s, IOwn w B y s → IOwn w6 B y s := fun y s hy => hy.fr f (fun j e e2 => own_apart h.row hy (by decide) j e e2)
  refine ⟨by rw [List.length_append]; exact ho, by simp [h.ul], fun i hi hk => ?_⟩
  rw [List.length_append, List.length_singleton] at hi
  by_cases e : i < us.length
  · rw [List.getElem_append_left e, List.getElem_append_left (by rw [← h.ul]; exact e)]
    exact ke _ _ (h.each i e (by rw [← h.ul]; exact e))
  · have ei : i = us.length := by omega
    subst ei
    rw [List.getElem_append_right (Nat.le_refl _), List.getElem_append_right (by rw [h.ul]; exact Nat.le_refl _)]
    simp only [Nat.sub_self, h.ul, List.getElem_cons_zero]
    exact ke _ _ hx
/-- Read. -/
theorem LOc.lb {w : World} {B : Nat} {v : Value} {us : List Value} {ls : List (List Int)} (h : LOc w B v us ls) : LB w.heap.size w v ls := by
  obtain ⟨a, c, e⟩ := own_slice h.row
  refine ⟨a, c, by rw [e, h.ul], fun hne => ?_⟩
  have hl0 : 0 < us.length := by rw [h.ul]; exact List.length_pos_iff.2 hne
  obtain ⟨g, cap, e2, -, -⟩ := own_cell h.row (j := 0) (u := us[0]) (List.getElem?_eq_getElem hl0)
  rw [e] at e2
  injection e2 with e3 e4 e5
  refine ⟨g, 0, e3, (World.ownsRow.lt h.row g (by rw [e, e3]; rfl)).2, fun i hi => ?_⟩
  have hi' : i < us.length := by rw [h.ul]; exact hi
  obtain ⟨g', cap', e6, -, hc⟩ := own_cell h.row (j := i) (u := us[i]) (List.getElem?_eq_getElem hi')
  rw [e, e3] at e6
  injection e6 with e7
  injection e7 with e7
  injection e7 with e7
  subst e7
  refine ⟨us[i], by rw [Nat.zero_add]; exact hc, ?_⟩
  have ho := h.each i hi' hi
  obtain ⟨a2, c2, e8, h2⟩ := ho.ia
  refine ⟨a2, c2, e8, fun hne2 => ?_⟩
  obtain ⟨k, o, e9, hk, h3⟩ := h2 hne2
  exact ⟨k, o, e9, hk, h3⟩
def ClE (fs : List PF) (w : World) (e : Ending) (w' : World) : Prop :=
  ∃ v, e = .returned v ∧ LB w'.heap.size w' v (zLs fs.length (clX fs)) ∧ Fr (fun _ => False) w w'
theorem under53 : Tryd.prog.underlying 53 = some (.slice 25) := by kernel_rfl
set_option maxRecDepth 100000 in
set_option maxHeartbeats 8000000 in
theorem called_any (G : Int) (fv : Value) (fs : List PF) (w : World) (h : FA w fv fs) (hok : CallOk fs) (hN : fs.length ≤ 1000000) (hL : ∀ f ∈ fs, f.code.length ≤ 1000000000) :
    Calls Tryd.prog 24 #[.agg #[vI G, fv]] w (ClE fs w) := by
  obtain ⟨a0, c0, efv, -⟩ := id h
  subst efv
  have HFA : Hd (FA w (.slice a0 fs.length c0) fs) := h
  have HOK : Hd (CallOk fs) := hok
  have HL : Hd (∀ f ∈ fs, f.code.length ≤ 1000000000) := hL
  obtain ⟨wa, hwa⟩ : ∃ wa, wa = w.alloc (.cells #[vI G, .slice a0 fs.length c0] 24) := ⟨_, rfl⟩
  obtain ⟨H, hH⟩ : ∃ H, H = w.heap.size := ⟨_, rfl⟩
  have HH : Hd (H = w.heap.size) := hH
  have hFa : Fr (fun _ => False) w wa := by rw [hwa]; exact Fr.alloc (Fr.refl _ w) _
  have HBB : Hd (wa.heap[H]? = some (.cells #[vI G, .slice a0 fs.length c0] 24)) := by unfold Hd; rw [hwa, hH]; exact heap_new0 w _
  have HFB : Hd (Fr (fun _ => False) w wa) := hFa
  have HWA : Hd (wa = w.alloc (.cells #[vI G, .slice a0 fs.length c0] 24)) := hwa
  have HSB : Hd (H + 1 ≤ wa.heap.size) := by unfold Hd; rw [hwa, World.size_alloc, hH]; exact Nat.le_refl _
  have c1 : wa.cell? ⟨H, 1, none⟩ = some (.slice a0 fs.length c0) := by rw [cell_of0 HBB.out]; rfl
  clear h hok hL hwa hH hFa
  go_enter Tryd.func24, Tryd.ntmps24
  go_upto_region 1 with fail
  rw [← HWA.out, ← HH.out]
  clear HWA
  go_wp2_with fail
  go_loopw [3, 4] (fun v3 v wx => ∃ (k : Nat) (us : List Value), v = .int .i64 k ∧ k ≤ fs.length ∧ Hd (us.length = k ∧ LOc wx (H + 1) v3 us ((List.range k).map (fun f => zL (clX fs f)))) ∧ Hd (wx.heap[H]? = some (.cells #[vI G, .slice a0 fs.length c0] 24)) ∧ Hd (Fr (fun _ => False) w wx) ∧ Hd (H + 1 ≤ wx.heap.size)) (fun _ v _ => match v with | .int _ q => fs.length - q.toNat | _ => 0)
  case atStart => exact ⟨0, [], by simp, Nat.zero_le _, ⟨rfl, World.ownsRow_nil _ _ _ _, rfl, fun i hi => by simp at hi⟩, HBB.out, HFB.out, HSB.out⟩
  case round =>
    clear HBB HFB HSB c1
    obtain ⟨k, us, rfl, hk, HO, HB, HF, HS⟩ := hrel
    have c1 : wr.cell? ⟨H, 1, none⟩ = some (.slice a0 fs.length c0) := by rw [cell_of0 HB.out]; rfl
    by_cases hlt : k < fs.length
    · have d1 : decide ((k : Int) < (fs.length : Int)) = true := by simp; omega
      have k0 : (0 : Int) ≤ k := by omega
      have k1 : (k : Int) < fs.length := by omega
      obtain ⟨a, cp, e, hh⟩ := HFA.out
      obtain ⟨fk, fo, e2, hfk, hg⟩ := hh (fun e => by simp [e] at hlt)
      obtain ⟨cv0, -, -, -, p3, hca⟩ := hg k hlt
      rw [e2] at e
      injection e with e eL eC
      clear eL eC
      subst e
      obtain ⟨ca, cc, ecv, hcode⟩ := id hca
      subst ecv
      have HP3 : Hd (w.cell? ⟨fk, fo + k * 4 + 3, none⟩ = some (.slice ca fs[k].code.length cc) ∧ fk < w.heap.size) := ⟨p3, hfk⟩
      have hcl := HL.out _ (List.getElem_mem hlt)
      have HCD : Hd (CA w (.slice ca fs[k].code.length cc) fs[k].code) := hca
      have HCK : Hd (∀ c ∈ fs[k].code, c.op = 11 → 0 ≤ c.n ∧ c.n < (fs.length : Int)) := HOK.out _ (List.getElem_mem hlt)
      have HCX : Hd (clX fs k = callX fs[k].code) := clX_at hlt
      generalize hcs : fs[k].code = cs at *
      have HI0 : Hd (IOwn wr wr.heap.size (.slice none 0 0) (zL (callX (cs.take 0)))) := World.ownsRow_nil _ _ _ _
      clear hcs hg hh hca hcode p3 hlt
      go_wp2_with fail
      obtain ⟨wi, hwi⟩ : ∃ wi, wi = wr := ⟨_, rfl⟩
      rw [← hwi] at HO HB HF HS HI0 ⊢
      have HFI : Hd (Fr (fun _ => False) wi wi) := Fr.refl _ _
      clear hwi c1
      go_loopw [5, 6] (fun v5 v wx => ∃ j : Nat, v = .int .i64 j ∧ j ≤ cs.length ∧ Hd (IOwn wx wi.heap.size v5 (zL (callX (cs.take j)))) ∧ Hd (Fr (fun _ => False) wi wx)) (fun _ v _ => match v with | .int _ q => cs.length - q.toNat | _ => 0)
      case atStart => exact ⟨0, by simp, Nat.zero_le _, HI0.out, HFI.out⟩
      case round =>
        clear HI0 HFI
        obtain ⟨j, rfl, hj, HI, HFI⟩ := hrel
        have hHlt : H < wi.heap.size := by have := HS.out; omega
        have c1 : wr.cell? ⟨H, 1, none⟩ = some (.slice (some ⟨fk, fo, none⟩) fs.length c0) := by rw [HFI.out.cell hHlt (fun e => e), cell_of0 HB.out]; rfl
        have p3 : wr.cell? ⟨fk, fo + k * 4 + 3, none⟩ = some (.slice ca cs.length cc) := ((HF.out.trans HFI.out).cell HP3.out.2 (fun e => e)).trans HP3.out.1
        by_cases hlj : j < cs.length
        · have d2 : decide ((j : Int) < (cs.length : Int)) = true := by simp; omega
          have j0 : (0 : Int) ≤ j := by omega
          have j1 : (j : Int) < cs.length := by omega
          obtain ⟨a, cp, e, hh⟩ := HCD.out
          obtain ⟨ck, co, e2, hck, hg⟩ := hh (fun e => by simp [e] at hlj)
          obtain ⟨av, rv, q0, -, -, -, q4, -⟩ := hg j hlj
          rw [e2] at e
          injection e with e eL eC
          clear eL eC
          subst e
          have m : ∀ o, wr.cell? ⟨ck, o, none⟩ = w.cell? ⟨ck, o, none⟩ := fun o => (HF.out.trans HFI.out).cell hck (fun e => e)
          rw [← m] at q0 q4
          have HT : Hd (callX (cs.take (j + 1)) = callX (cs.take j) ++ if cs[j].op = 11 then [cs[j].n.toNat] else []) := callX_next hlj
          have HKJ : Hd (cs[j].op = 11 → 0 ≤ cs[j].n ∧ cs[j].n < (fs.length : Int)) := HCK.out _ (List.getElem_mem hlj)
          have hlen : (callX (cs.take j)).length ≤ 1000000000 := by
            unfold callX
            rw [List.length_map]
            have := List.length_filter_le (fun c => c.op == 11) (cs.take j)
            rw [List.length_take] at this
            omega
          generalize cs[j] = c at *
          clear hg hh m hlj
          by_cases hop : c.op = 11
          · have eop : (c.op == 11) = true := by simp [hop]
            obtain ⟨n, hn⟩ : ∃ n : Nat, c.n = (n : Int) := ⟨c.n.toNat, by have := HKJ.out hop; omega⟩
            have HT2 : Hd (callX (cs.take (j + 1)) = callX (cs.take j) ++ [n]) := by
              unfold Hd
              rw [HT.out, if_pos hop, hn]
              rfl
            rw [hn] at q4
            obtain ⟨va, vc, ev⟩ := iown_cap HI.out
            subst ev
            have hCz : Fr (fun _ => False) wr (wr.alloc (.cells #[vI (n : Int)] 3)) := Fr.alloc (Fr.refl _ wr) _
            have HFz : Hd (Fr (fun _ => False) wr (wr.alloc (.cells #[vI (n : Int)] 3))) := hCz
            have HRW : Hd ((wr.alloc (.cells #[vI (n : Int)] 3)).ownsRow wi.heap.size 3 1 (.slice va (zL (callX (cs.take j))).length vc) (zL (callX (cs.take j))).length ((zL (callX (cs.take j))).map vI)) := ownsRow_frL HI.out hCz (fun _ _ e => e)
            have HNW : Hd (∀ j' u, [vI (n : Int)][j']? = some u → (wr.alloc (.cells #[vI (n : Int)] 3)).cell? ((⟨wr.heap.size, 0, none⟩ : Addr).add j') = some u) := World.news_of_block (w := wr.alloc (.cells #[vI (n : Int)] 3)) (cs := #[vI (n : Int)]) (heap_new0 wr _)
            have HSZ : Hd ((wr.alloc (.cells #[vI (n : Int)] 3)).heap.size = wr.heap.size + 1) := World.size_alloc _ _
            have HBS : Hd (wi.heap.size ≤ (wr.alloc (.cells #[vI (n : Int)] 3)).heap.size) := by have := HSZ.out; have := HFI.out.size; unfold Hd; omega
            have HZL : Hd ((zL (callX (cs.take j))).length ≤ 1000000000) := by unfold Hd; rw [List.length_map]; exact hlen
            have HGE : Hd (∀ q, (Value.slice va (zL (callX (cs.take j))).length vc).ownBlock = some q → wi.heap.size ≤ q) := fun q e => (HI.out.ge q e).1
            have HL2 : Hd (zL (callX (cs.take (j + 1))) = zL (callX (cs.take j)) ++ [(n : Int)]) := by unfold Hd; rw [HT2.out, zL_app]
            generalize zL (callX (cs.take j)) = L at *
            clear hop hn HT HKJ HT2 hCz hlen
            go_wp2_with ((at_builtin; refine Hd.out ?_))
            unfold Hd
            obtain ⟨i3, hi3, hz3, hs3, hb3⟩ := info_parts (P := Tryd.prog) (e := 3) (z := .int .i64 0) (size := 1) (bytes := 8) (by kernel_rfl)
            refine wpList_append_lies _ rfl (.tmp 36) (.tmp 47) 25 rfl wi.heap.size 3 i3 (.int .i64 0) 1 8 under64 hi3 hz3 hs3 hb3 rfl (by omega) (.slice va L.length vc) L.length _ rfl HRW.out ⟨wr.heap.size, 0, none⟩ 1 1 [vI (n : Int)] rfl rfl HNW.out (by intro u hu; rw [List.mem_singleton] at hu; rw [hu]; rfl) (by omega) (by have := HZL.out; unfold maxLen; omega) (by have := HZL.out; omega) HBS.out (wr.heap.size + 1) (by simp) ?_
            intro g6 cap6 w6 hown6 hgrow6 hat6 hlt6
            clear hi3 hz3 hs3 hb3
            have HI6 : Hd (IOwn w6 wi.heap.size (.slice (some ⟨g6, 0, none⟩) (L.length + 1) cap6) (zL (callX (cs.take (j + 1))))) := by
              unfold Hd
              rw [HL2.out]
              unfold IOwn
              simpa using hown6
            have HF6 : Hd (Fr (fun _ => False) wi w6) := (HFI.out.trans HFz.out).then (grown_frL hgrow6) (fun q hq e => by have := HGE.out q e; omega)
            clear hown6 hgrow6 hat6 hlt6 HRW HNW HSZ HBS HFz
            go_wp2_with fail
            go_roundw
            case measure => simp; omega
            case rel => exact ⟨j + 1, by simp, by omega, HI6.out, HF6.out⟩
          · have eop : (c.op == 11) = false := by simp [hop]
            have HI6 : Hd (IOwn wr wi.heap.size u5 (zL (callX (cs.take (j + 1))))) := by
              unfold Hd
              rw [HT.out, if_neg hop, List.append_nil]
              exact HI.out
            clear hop HT HKJ
            go_wp2_with fail
            go_roundw
            case measure => simp; omega
            case rel => exact ⟨j + 1, by simp, by omega, HI6.out, HFI.out⟩
        · have d2 : decide ((j : Int) < (cs.length : Int)) = false := by simp; omega
          have d2n : ¬ j < cs.length := by omega
          have hIk : IOwn wr wi.heap.size u5 (zL (clX fs k)) := by
            have := HI.out
            rw [List.take_of_length_le (by omega), ← HCX.out] at this
            exact this
          obtain ⟨va, vc, ev⟩ := iown_cap hIk
          have hO1 := HO.out.2.stay HFI.out
          obtain ⟨ra, rc, er⟩ := own_slice hO1.row
          rw [HO.out.1] at er
          have hCz : Fr (fun _ => False) wr (wr.alloc (.cells #[.slice va (zL (clX fs k)).length vc] 25)) := Fr.alloc (Fr.refl _ wr) _
          subst ev er
          have HFz : Hd (Fr (fun _ => False) wr (wr.alloc (.cells #[.slice va (zL (clX fs k)).length vc] 25))) := hCz
          have HOz : Hd (LOc (wr.alloc (.cells #[.slice va (zL (clX fs k)).length vc] 25)) (H + 1) (.slice ra k rc) us ((List.range k).map (fun f => zL (clX fs f)))) := hO1.stay hCz
          have HIz : Hd (IOwn (wr.alloc (.cells #[.slice va (zL (clX fs k)).length vc] 25)) (H + 1) (.slice va (zL (clX fs k)).length vc) (zL (clX fs k))) := (hIk.fr hCz (fun _ _ e => e)).mono HS.out
          have HRW : Hd ((wr.alloc (.cells #[.slice va (zL (clX fs k)).length vc] 25)).ownsRow (H + 1) 25 1 (.slice ra k rc) k us) := by
            have := HOz.out.row
            rw [HO.out.1] at this
            exact this
          have HNW : Hd (∀ j' u, [Value.slice va (zL (clX fs k)).length vc][j']? = some u → (wr.alloc (.cells #[.slice va (zL (clX fs k)).length vc] 25)).cell? ((⟨wr.heap.size, 0, none⟩ : Addr).add j') = some u) := World.news_of_block (w := wr.alloc (.cells #[.slice va (zL (clX fs k)).length vc] 25)) (cs := #[.slice va (zL (clX fs k)).length vc]) (heap_new0 wr _)
          have HSZ : Hd ((wr.alloc (.cells #[.slice va (zL (clX fs k)).length vc] 25)).heap.size = wr.heap.size + 1) := World.size_alloc _ _
          have HBS : Hd (H + 1 ≤ (wr.alloc (.cells #[.slice va (zL (clX fs k)).length vc] 25)).heap.size) := by have := HSZ.out; have := HFI.out.size; have := HS.out; unfold Hd; omega
          have HUL : Hd (us.length = k) := HO.out.1
          have HRG : Hd ((List.range (k + 1)).map (fun f => zL (clX fs f)) = (List.range k).map (fun f => zL (clX fs f)) ++ [zL (clX fs k)]) := by unfold Hd; rw [List.range_succ, List.map_append]; rfl
          have hkb : k ≤ 1000000 := by omega
          have HGE : Hd (∀ q, (Value.slice ra k rc).ownBlock = some q → H + 1 ≤ q ∧ q < wr.heap.size) := fun q e => by
            have := World.ownsRow.lt hO1.row q (by rw [← e])
            exact this
          clear hIk hO1 hCz HI hlj HO
          generalize zL (clX fs k) = L at *
          go_wp2_with ((at_builtin; refine Hd.out ?_))
          unfold Hd
          obtain ⟨i3, hi3, hz3, hs3, hb3⟩ := info_parts (P := Tryd.prog) (e := 25) (z := .slice none 0 0) (size := 1) (bytes := 24) (by kernel_rfl)
          refine wpList_append_lies _ rfl (.tmp 49) (.tmp 51) 53 rfl (H + 1) 25 i3 (.slice none 0 0) 1 24 under53 hi3 hz3 hs3 hb3 rfl (by omega) (.slice ra k rc) k _ rfl HRW.out ⟨wr.heap.size, 0, none⟩ 1 1 [.slice va L.length vc] rfl rfl HNW.out (by intro u hu; rw [List.mem_singleton] at hu; rw [hu]; rfl) (by omega) (by unfold maxLen; omega) (by omega) HBS.out (wr.heap.size + 1) (by simp) ?_
          intro g6 cap6 w6 hown6 hgrow6 hat6 hlt6
          clear hi3 hz3 hs3 hb3
          have HO6 : Hd ((us ++ [Value.slice va L.length vc]).length = k + 1 ∧ LOc w6 (H + 1) (.slice (some ⟨g6, 0, none⟩) (k + 1) cap6) (us ++ [.slice va L.length vc]) ((List.range (k + 1)).map (fun f => zL (clX fs f)))) := by
            refine ⟨by rw [List.length_append, HUL.out]; rfl, ?_⟩
            rw [HRG.out]
            have k1 := HOz.out.grow (g := g6) (cap := cap6) HIz.out hgrow6 (by rw [HUL.out]; exact hown6)
            rw [HUL.out] at k1
            exact k1
          have hfr : Fr (fun q => (Value.slice ra k rc).ownBlock = some q) wr w6 := (HFz.out.mono (fun _ _ e => e.elim)).trans (grown_frL hgrow6)
          have HB6 : Hd (w6.heap[H]? = some (.cells #[vI G, .slice (some ⟨fk, fo, none⟩) fs.length c0] 24)) := (hfr.block H (Nat.lt_of_lt_of_le hHlt HFI.out.size) (fun e => by have := (HGE.out H e).1; omega)).trans (keepF HB.out HFI.out)
          have HF6 : Hd (Fr (fun _ => False) w w6) := (HF.out.trans HFI.out).then hfr (fun q hq e => by have := (HGE.out q e).1; have := HH.out; omega)
          have HS6 : Hd (H + 1 ≤ w6.heap.size) := by have := hfr.size; have := HFI.out.size; have := HS.out; unfold Hd; omega
          clear hown6 hgrow6 hat6 hlt6 HRW HNW HSZ HBS HFz HOz HIz hfr
          go_wp2_with fail
          go_roundw
          case measure => simp; omega
          case rel => exact ⟨k + 1, _, by simp, by omega, HO6.out, HB6.out, HF6.out, HS6.out⟩
    · have d1 : decide ((k : Int) < (fs.length : Int)) = false := by simp; omega
      have d1n : ¬ k < fs.length := by omega
      have HE : Hd (ClE fs w (.returned u3) wr) := by
        have e : k = fs.length := by omega
        have := HO.out.2.lb
        rw [e] at this
        exact ⟨u3, rfl, this, HF.out⟩
      clear hlt HO
      go_wp2_with fail
      go_ret
      exact HE.out
end Go.Proofs.YtjmbfjaahadbhaaDoor
