import Derived.Test.YtingenonbkencaaDoorQN4J
import Derived.Test.YtingenonbkencaaDoorQW2
import Derived.Test.YtingenonbkencaaDoorQG1J
import Derived.Test.YtingenonbkencaaDoorQE6J
namespace Go.Proofs.YtingenonbkencaaDoor
open Go.RowKit (wrap32 wrap64)
set_option linter.unusedVariables false
set_option linter.unusedSimpArgs false

set_option maxRecDepth 100000 in
set_option maxHeartbeats 1000000 in
theorem next_writes (b wb g0 K : Nat) (l : List UInt8) (bv : Value) (p : Addr) (at' v : Int) (size : Nat) (w : World) (h0 : w.cell? ⟨b, 0, none⟩ = some (writerFn wb)) (h1 : w.cell? ⟨b, 1, none⟩ = some (vI at')) (f1 : w.frozen? ⟨b, 1, none⟩ = false)
    (hp : w.cell? p = some (vI v)) (hs : size ≤ 8) (hr : Row w wb g0 K l bv) (hl : l.length + size ≤ 1000000000000) (hbS : ¬ (b = wb ∨ K ≤ b)) (hb : b < w.heap.size) :
    Calls Tryd.prog 90 #[.pointer (some ⟨b, 0, none⟩), .pointer (some p), .int .i64 size] w fun e w' =>
      e = .returned (vI at') ∧ ∃ w1 bv', Row w1 wb g0 K (l ++ leBytes size (IntKind.u64.wrap v).toNat) bv' ∧ Fr (fun k => k = wb ∨ K ≤ k) w w1 ∧ w' = w1.setCell ⟨b, 1, none⟩ (vI (adv at' size)) := by
  unfold adv
  rw [← wrap64_wrap]
  have hw := writes_any wb g0 K l bv p at' v size w hp hs hr hl
  unfold writerFn at h0
  go_enter Tryd.func90, Tryd.ntmps90
  go_wp2_with fail
  refine hw.mono ?_
  rintro e w1 ⟨rfl, ⟨bv', hr1⟩, hf1⟩
  have d1 : w1.cell? ⟨b, 1, none⟩ = some (vI at') := (hf1.cell hb hbS).trans h1
  have z1 : w1.frozen? ⟨b, 1, none⟩ = false := (hf1.frozen hb hbS).trans f1
  clear hw
  go_wp2_with fail
  go_ret
  exact ⟨rfl, w1, bv', hr1, hf1, rfl⟩

theorem writing_at (b wb g0 K : Nat) : NextAt (writing b wb g0 K) (fun st => st.1) := by
  intro o ho x size w hroom hx hs1 hs8
  obtain ⟨s, st⟩ := x
  obtain ⟨hl, hn, hI⟩ := hx
  have hroom' : 1 ≤ st.1 := hroom
  simp only at hl hn
  obtain ⟨h1, h2, h3, h4, h5, h6, h7, h8, h9, bv, hrow⟩ := hI
  simp only at h1
  have h2' : st.2.length + 8 * st.1 ≤ 1000000000 := h2
  have hbS : ¬ (b = wb ∨ K ≤ b) := by omega
  have h0 : w.cell? ⟨b, 0, none⟩ = some (writerFn wb) := by rw [hl.facts.1, hn]; rfl
  have hu : w.cell? ⟨b, o, none⟩ = some (vI (s.get o)) := by rw [hl.cell, cells_get s o ho]
  refine (next_writes b wb g0 K st.2 bv ⟨b, o, none⟩ s.at' (s.get o) size w h0 hl.facts.2.1 (hl.frozen 1) hu hs8 hrow (by omega) hbS hl.lt).mono ?_
  rintro e w' ⟨rfl, w1, bv', hr1, hf1, rfl⟩
  have hfb : Fr (fun k => k = b) w1 (w1.setCell ⟨b, 1, none⟩ (vI (adv s.at' size))) := Fr.setCell (Fr.refl (fun k => k = b) w1) _ _ (Or.inl rfl)
  refine ⟨(hf1.mono (fun k _ hk => Or.inr hk)).trans (hfb.mono (fun k _ hk => Or.inl hk)), ?_⟩
  have hadv : adv s.at' size = s.at' + size := adv_small _ _ (by omega) (by omega) hs8
  have hl1 : Lies w1 b s := hl.fr hf1 hbS
  have hT1 : Tab w1 := h9.fr hf1 (by omega)
  have e : nextX (writing b wb g0 K) o size (s, st) = .ok ({ s with at' := adv s.at' size }, (st.1 - 1, st.2 ++ leBytes size (IntKind.u64.wrap (s.get o)).toNat)) := by
    unfold nextX
    simp only [writing]
    rw [if_neg (by omega)]
    simp only [set_get]
  rw [e]
  refine ⟨rfl, hl1.setCell 1 _ (cells_at _ _), hn, ?_, ?_, h3, h4, h5, h6, h7, h8, hT1.fr hfb (by omega), bv', hr1.fr hfb (fun e => h7 e.symm) h8 (fun k hk e => by omega)⟩
  · show adv s.at' size = ((st.2 ++ leBytes size (IntKind.u64.wrap (s.get o)).toNat).length : Nat)
    rw [List.length_append, leBytes_length, hadv, h1]; simp
  · show (st.2 ++ leBytes size (IntKind.u64.wrap (s.get o)).toNat).length + 8 * (st.1 - 1) ≤ 1000000000
    rw [List.length_append, leBytes_length]; omega

theorem writing_goes (b wb g0 K : Nat) : RoomGoes (writing b wb g0 K) (fun st => st.1) := by
  intro o size x y h
  unfold nextX at h
  simp only [writing] at h
  split at h
  · rename_i v st hv
    split at hv
    · cases hv
    · cases hv
      cases h
      show x.2.1 ≤ x.2.1 - 1 + 1
      omega
  · cases h

theorem leaving_goes (b : Nat) : RoomGoes (leaving b) (fun _ => 1000) := fun _ _ _ _ _ => by show 1000 ≤ 1000 + 1; omega
end Go.Proofs.YtingenonbkencaaDoor

namespace Go.Proofs.YtingenonbkencaaDoor
open Go.RowKit (wrap32 wrap64)
set_option linter.unusedVariables false
set_option linter.unusedSimpArgs false

/-- The least program, as it lies. -/
structure Least (w : World) (fb cb : Nat) : Prop where
  funcs : w.heap[fb]? = some (.cells #[vI 0, vI 0, vI 0, .slice (some ⟨cb, 0, none⟩) 1 1] 67)
  code : w.heap[cb]? = some (.cells #[vI 15, vI 0, vI 0, vI 0, vI 0, .slice none 0 0, .slice none 0 0] 71)

theorem Least.fr {S : Nat → Prop} {w w' : World} {fb cb : Nat} (h : Least w fb cb) (f : Fr S w w') (h1 : ¬ S fb) (h2 : ¬ S cb) : Least w' fb cb :=
  ⟨by rw [f.block fb (Array.getElem?_eq_some_iff.1 h.funcs).1 h1]; exact h.funcs, by rw [f.block cb (Array.getElem?_eq_some_iff.1 h.code).1 h2]; exact h.code⟩

theorem least_cells {wx : World} {fb cb : Nat} (hx : Least wx fb cb) : wx.cell? ⟨fb, 0, none⟩ = some (vI 0) ∧ wx.cell? ⟨fb, 1, none⟩ = some (vI 0) ∧ wx.cell? ⟨fb, 2, none⟩ = some (vI 0) ∧ wx.cell? ⟨fb, 3, none⟩ = some (.slice (some ⟨cb, 0, none⟩) 1 1) ∧ fb < wx.heap.size := by
  refine ⟨?_, ?_, ?_, ?_, (Array.getElem?_eq_some_iff.1 hx.funcs).1⟩ <;> (unfold World.cell?; simp [hx.funcs])

theorem least_code {wx : World} {fb cb : Nat} (hx : Least wx fb cb) : wx.cell? ⟨cb, 0, none⟩ = some (vI 15) ∧ wx.cell? ⟨cb, 1, none⟩ = some (vI 0) ∧ wx.cell? ⟨cb, 2, none⟩ = some (vI 0) ∧ wx.cell? ⟨cb, 3, none⟩ = some (vI 0) ∧ wx.cell? ⟨cb, 4, none⟩ = some (vI 0) ∧
    wx.cell? ⟨cb, 5, none⟩ = some (.slice none 0 0) ∧ wx.cell? ⟨cb, 6, none⟩ = some (.slice none 0 0) ∧ cb < wx.heap.size := by
  refine ⟨?_, ?_, ?_, ?_, ?_, ?_, ?_, (Array.getElem?_eq_some_iff.1 hx.code).1⟩ <;> (unfold World.cell?; simp [hx.code])

/-- Numbers stay what they are. -/
def Keeps {b : Nat} (M : Mode b) (rm : M.σ → Nat) : Prop := ∀ st p size v, 1 ≤ rm st → ∃ st', M.eff st p size v = .ok (v, st')

theorem next_keep {b : Nat} {M : Mode b} {rm : M.σ → Nat} (hK : Keeps M rm) (hR : RoomGoes M rm) (o size n : Nat) (s : WS) (st : M.σ) (h : n + 1 ≤ rm st) :
    ∃ st', M.eff st s.at' size (s.get o) = .ok (s.get o, st') ∧ nextX M o size (s, st) = .ok ({ s with at' := adv s.at' size }, st') ∧ n ≤ rm st' := by
  obtain ⟨st', e⟩ := hK st s.at' size (s.get o) (by omega)
  have e2 : nextX M o size (s, st) = .ok ({ s with at' := adv s.at' size }, st') := by
    unfold nextX; simp only [e, set_get]
  exact ⟨st', e, e2, by have := hR _ _ _ _ e2; simp only at this; omega⟩

theorem head_keep {b : Nat} {M : Mode b} {rm : M.σ → Nat} (hK : Keeps M rm) (hR : RoomGoes M rm) (n : Nat) (s : WS) (st : M.σ) (h : n + 4 ≤ rm st) (h9 : s.at' = 9) (hP : s.fP = 0) (hRr : s.fR = 0) (hV : s.fV = 0) (hl : s.len = 1) (hlo : s.locs = 1) :
    ∃ st1 st2 st3 st4, M.eff st 9 1 0 = .ok (0, st1) ∧ M.eff st1 10 1 0 = .ok (0, st2) ∧ M.eff st2 11 1 0 = .ok (0, st3) ∧ M.eff st3 12 2 1 = .ok (1, st4) ∧ headX M (s, st) = .ok ({ s with at' := 14, locs := 1 }, st4) ∧ n ≤ rm st4 := by
  obtain ⟨st1, a1, b1, c1⟩ := next_keep hK hR 149 1 (n + 3) s st (by omega)
  obtain ⟨st2, a2, b2, c2⟩ := next_keep hK hR 150 1 (n + 2) { s with at' := adv s.at' 1 } st1 (by omega)
  obtain ⟨st3, a3, b3, c3⟩ := next_keep hK hR 151 1 (n + 1) { s with at' := adv (adv s.at' 1) 1 } st2 (by omega)
  obtain ⟨st4, a4, b4, c4⟩ := next_keep hK hR 153 2 n { s with at' := adv (adv (adv s.at' 1) 1) 1 } st3 (by omega)
  have g1 : s.get 149 = 0 := hP
  have g2 : ({ s with at' := adv s.at' 1 } : WS).get 150 = 0 := hRr
  have g3 : ({ s with at' := adv (adv s.at' 1) 1 } : WS).get 151 = 0 := hV
  have g4 : ({ s with at' := adv (adv (adv s.at' 1) 1) 1 } : WS).get 153 = 1 := hl
  rw [g1] at a1; rw [g2] at a2; rw [g3] at a3; rw [g4] at a4
  simp only [h9] at a1 a2 a3 a4
  refine ⟨st1, st2, st3, st4, a1, a2, a3, a4, ?_, c4⟩
  rw [headX_then, b1]
  simp only [thenX]
  rw [b2]
  simp only
  rw [b3]
  simp only
  rw [b4]
  simp only [headOk, hP, hRr, hV, hl, locX, hlo]
  rw [h9]
  have e1 : adv (adv (adv (adv 9 1) 1) 1) 2 = 14 := by decide
  have e2 : wrap64 1 = 1 := by unfold wrap64; omega
  simp [e1, e2]

theorem instr_keep {b : Nat} {M : Mode b} {rm : M.σ → Nat} (hK : Keeps M rm) (hR : RoomGoes M rm) (n : Nat) (s : WS) (st : M.σ) (h : n + 2 ≤ rm st) (h14 : s.at' = 14) (hop : s.op = 15) :
    ∃ st1 st2, M.eff st 14 1 15 = .ok (15, st1) ∧ M.eff st1 15 1 0 = .ok (0, st2) ∧ nextX M 154 1 (s, st) = .ok ({ s with at' := 15 }, st1) ∧
      retX M 0 (frontOk M true false true 0 14 ({ s with at' := 15 }, st1)) = .ok (([], []), ({ s with at' := 16, count := 0 }, st2)) ∧ n ≤ rm st2 ∧ n + 1 ≤ rm st1 := by
  obtain ⟨st1, a1, b1, c1⟩ := next_keep hK hR 154 1 (n + 1) s st (by omega)
  obtain ⟨st2, a2, b2, c2⟩ := next_keep hK hR 161 1 n { s with at' := adv s.at' 1, count := 0 } st1 (by omega)
  have g1 : s.get 154 = 15 := hop
  have g2 : ({ s with at' := adv s.at' 1, count := 0 } : WS).get 161 = 0 := rfl
  rw [g1] at a1; rw [g2] at a2
  have e15 : adv 14 1 = 15 := by decide
  have e16 : adv 15 1 = 16 := by decide
  simp only [h14, e15] at a1 a2 b1 b2
  simp only [e16] at b2
  refine ⟨st1, st2, a1, a2, b1, ?_, c2, c1⟩
  simp only [retX, frontOk, thenX, listX, List.length_nil]
  simp only [Bool.true_or, Bool.true_eq_false, if_false, Bool.false_eq_true]
  have : ((0 : Nat) : Int) = 0 := rfl
  rw [this, b2]
  simp [varsX]

/-- The numbers of the least program, one behind the other. -/
def Chain8 {b : Nat} (M : Mode b) (st0 st8 : M.σ) : Prop := ∃ st1 st2 st3 st4 st5 st6 st7, M.eff st0 6 1 0 = .ok (0, st1) ∧ M.eff st1 7 2 1 = .ok (1, st2) ∧ M.eff st2 9 1 0 = .ok (0, st3) ∧ M.eff st3 10 1 0 = .ok (0, st4) ∧ M.eff st4 11 1 0 = .ok (0, st5) ∧
  M.eff st5 12 2 1 = .ok (1, st6) ∧ M.eff st6 14 1 15 = .ok (15, st7) ∧ M.eff st7 15 1 0 = .ok (0, st8)

def OverLeast {b : Nat} (M : Mode b) (st0 : M.σ) (w : World) (e : Ending) (w' : World) : Prop :=
  e = .returned (.tuple #[]) ∧ Fr M.SB w w' ∧ ∃ s' st8, On M w' (s', st8) ∧ s'.locs = 1 ∧ Chain8 M st0 st8

theorem instr_lies {w : World} {b : Nat} {s : WS} (h : Lies w b s) :
    Lies (((((((w.setCell ⟨b, 154, none⟩ (vI 15)).setCell ⟨b, 155, none⟩ (vI 0)).setCell ⟨b, 156, none⟩ (vI 0)).setCell ⟨b, 157, none⟩ (vI 0)).setCell ⟨b, 158, none⟩ (vI 0)).setCell ⟨b, 159, none⟩ nilS).setCell ⟨b, 160, none⟩ nilS) b { s with op := 15, r := 0, s := 0, t := 0, n := 0, args := nilS, rets := nilS } := by
  have h1 := h.setCell (s' := { s with op := 15 }) 154 (vI 15) (by kernel_rfl)
  have h2 := h1.setCell (s' := { s with op := 15, r := 0 }) 155 (vI 0) (by kernel_rfl)
  have h3 := h2.setCell (s' := { s with op := 15, r := 0, s := 0 }) 156 (vI 0) (by kernel_rfl)
  have h4 := h3.setCell (s' := { s with op := 15, r := 0, s := 0, t := 0 }) 157 (vI 0) (by kernel_rfl)
  have h5 := h4.setCell (s' := { s with op := 15, r := 0, s := 0, t := 0, n := 0 }) 158 (vI 0) (by kernel_rfl)
  have h6 := h5.setCell (s' := { s with op := 15, r := 0, s := 0, t := 0, n := 0, args := nilS }) 159 nilS (by kernel_rfl)
  exact h6.setCell (s' := { s with op := 15, r := 0, s := 0, t := 0, n := 0, args := nilS, rets := nilS }) 160 nilS (by kernel_rfl)

set_option maxRecDepth 100000 in
set_option maxHeartbeats 2000000 in
theorem over_least {b : Nat} (M : Mode b) (rm : M.σ → Nat) (hN : NextAt M rm) (hR : RoomGoes M rm) (hK : Keeps M rm) (s : WS) (st0 : M.σ) (w : World) (h : Lies w b s) (hrm : 8 ≤ rm st0) (h6 : s.at' = 6) (hlo : s.locs = 1) (fb cb : Nat) (hl : Least w fb cb) (hfb : ¬ M.SB fb) (hcb : ¬ M.SB cb) (hnew : ∀ k, k = w.heap.size → ¬ M.SB k)
    (hOn : ∀ w1 s', Fr (fun k => k = b) w w1 → w1.heap[w.heap.size]? = some (.cells #[vI 0, .slice (some ⟨fb, 0, none⟩) 1 1] 26) → Lies w1 b s' → s'.num = s.num → s'.at' = s.at' → On M w1 (s', st0)) :
    Calls Tryd.prog 36 #[.pointer (some ⟨b, 0, none⟩), .agg #[vI 0, .slice (some ⟨fb, 0, none⟩) 1 1]] w (OverLeast M st0 w) := by
  obtain ⟨-, -, c146, c147, -, c149, c150, c151, c152, c153, -, -, -, -, -, -, -, c161⟩ := h.facts
  have hz := h.frozen
  have hb := h.lt
  go_enter Tryd.func36, Tryd.ntmps36
  go_wp2_with fail
  go_region
  have hl1 : Lies ((w.setCell ⟨b, 146, none⟩ (vI 0)).setCell ⟨b, 161, none⟩ (vI 1)) b { s with globals := 0, count := 1 } :=
    (h.setCell 146 _ (cells_set s 146 0 (by simp [places]))).setCell 161 _ (cells_set _ 161 1 (by simp [places]))
  have hf1 : Fr (fun k => k = b) w (((w.setCell ⟨b, 146, none⟩ (vI 0)).setCell ⟨b, 161, none⟩ (vI 1)).alloc (.cells #[vI 0, .slice (some ⟨fb, 0, none⟩) 1 1] 26)).drew :=
    (Fr.alloc (Fr.setCell (Fr.setCell (Fr.refl (fun k => k = b) w) _ _ (Or.inl rfl)) _ _ (Or.inl rfl)) _).drew
  have hpb : (((w.setCell ⟨b, 146, none⟩ (vI 0)).setCell ⟨b, 161, none⟩ (vI 1)).alloc (.cells #[vI 0, .slice (some ⟨fb, 0, none⟩) 1 1] 26)).drew.heap[w.heap.size]? = some (.cells #[vI 0, .slice (some ⟨fb, 0, none⟩) 1 1] 26) := by
    have hsz : ((w.setCell ⟨b, 146, none⟩ (vI 0)).setCell ⟨b, 161, none⟩ (vI 1)).heap.size = w.heap.size := by simp
    have := heap_alloc_last ((w.setCell ⟨b, 146, none⟩ (vI 0)).setCell ⟨b, 161, none⟩ (vI 1)) (.cells #[vI 0, .slice (some ⟨fb, 0, none⟩) 1 1] 26)
    rw [hsz] at this
    exact this
  have hon1 : On M (((w.setCell ⟨b, 146, none⟩ (vI 0)).setCell ⟨b, 161, none⟩ (vI 1)).alloc (.cells #[vI 0, .slice (some ⟨fb, 0, none⟩) 1 1] 26)).drew ({ s with globals := 0, count := 1 }, st0) := hOn _ _ hf1 hpb (hl1.alloc _).drew rfl rfl
  generalize (((w.setCell ⟨b, 146, none⟩ (vI 0)).setCell ⟨b, 161, none⟩ (vI 1)).alloc (.cells #[vI 0, .slice (some ⟨fb, 0, none⟩) 1 1] 26)).drew = w1 at hf1 hon1 hpb ⊢
  clear hl1 c146 c147 c149 c150 c151 c152 c153 c161 hz hOn
  obtain ⟨st1, a1, b1, r1⟩ := next_keep hK hR 146 1 7 { s with globals := 0, count := 1 } st0 (by omega)
  obtain ⟨st2, a2, b2, r2⟩ := next_keep hK hR 161 2 6 { s with globals := 0, count := 1, at' := adv s.at' 1 } st1 (by omega)
  have e7 : adv 6 1 = 7 := by decide
  have e9 : adv 7 2 = 9 := by decide
  simp only [h6, e7, e9] at a1 b1 a2 b2
  have x1 : askX M 146 1 (fun s => decide (0 ≤ s.globals ∧ s.globals ≤ 16)) 18 ({ s with globals := 0, count := 1 }, st0) = .ok ({ s with globals := 0, count := 1, at' := 7 }, st1) := by
    rw [askX_then]; simp only [h6]; rw [b1]; simp [thenX]
  have x2 : askX M 161 2 (fun s => decide (1 ≤ s.count ∧ s.count ≤ 65535)) 20 ({ s with globals := 0, count := 1, at' := 7 }, st1) = .ok ({ s with globals := 0, count := 1, at' := 9 }, st2) := by
    rw [askX_then, b2]; simp [thenX]
  go_wp2_with fail
  refine (askGlobals_at M rm hN _ w1 hon1 (by show 1 ≤ rm st0; omega)).mono ?_
  rw [x1]
  rintro e w2 ⟨hf2, rfl, hon2⟩
  clear x1 b1
  go_wp2_with fail
  refine (askFunctions_at M rm hN _ w2 hon2 (by show 1 ≤ rm st1; omega)).mono ?_
  rw [x2]
  rintro e w3 ⟨hf3, rfl, hon3⟩
  clear x2 b2
  have hps : ¬ M.SB w.heap.size := hnew _ rfl
  have hf13 : Fr M.SB w1 w3 := hf2.trans hf3
  have hp3 : w3.heap[w.heap.size]? = some (.cells #[vI 0, .slice (some ⟨fb, 0, none⟩) 1 1] 26) := by
    rw [hf13.block _ (Array.getElem?_eq_some_iff.1 hpb).1 hps]; exact hpb
  have hfw3 : Fr M.SB w w3 := (hf1.mono (fun k _ hk => Or.inl hk)).trans hf13
  have hL3 : Least w3 fb cb := hl.fr hfw3 hfb hcb
  have p1 : w3.cell? ⟨w.heap.size, 1, none⟩ = some (.slice (some ⟨fb, 0, none⟩) 1 1) := by unfold World.cell?; simp [hp3]
  have hplt : w.heap.size < w3.heap.size := (Array.getElem?_eq_some_iff.1 hp3).1
  clear hf2 hf3 hf1 hpb hon1 hon2 h
  have hfc : ∀ {wx : World}, Least wx fb cb → wx.cell? ⟨fb, 0, none⟩ = some (vI 0) ∧ wx.cell? ⟨fb, 1, none⟩ = some (vI 0) ∧ wx.cell? ⟨fb, 2, none⟩ = some (vI 0) ∧ wx.cell? ⟨fb, 3, none⟩ = some (.slice (some ⟨cb, 0, none⟩) 1 1) ∧ fb < wx.heap.size := by
    intro wx hx
    refine ⟨?_, ?_, ?_, ?_, (Array.getElem?_eq_some_iff.1 hx.funcs).1⟩ <;> (unfold World.cell?; simp [hx.funcs])
  go_wp2_with fail
  obtain ⟨sB, HSB⟩ : ∃ sB, Hd (sB = ({ s with globals := 0, count := 1, at' := 9, fP := 0, fR := 0, fV := 0, fC := .slice (some ⟨cb, 0, none⟩) 1 1, len := 1 } : WS)) := ⟨_, rfl⟩
  obtain ⟨st3, st4, st5, st6, a3, a4, a5, a6, x3, r6⟩ := head_keep hK hR 2 sB st2 (by omega) (by rw [HSB.out]) (by rw [HSB.out]) (by rw [HSB.out]) (by rw [HSB.out]) (by rw [HSB.out]) (by rw [HSB.out]; exact hlo)
  obtain ⟨sC, HSC⟩ : ∃ sC, Hd (sC = ({ sB with at' := 14, locs := 1 } : WS)) := ⟨_, rfl⟩
  have X3 : Hd (headX M (sB, st2) = .ok (sC, st6)) := by unfold Hd; rw [x3, HSC.out]
  have CH : Hd (M.eff st0 6 1 0 = .ok (0, st1) ∧ M.eff st1 7 2 1 = .ok (1, st2) ∧ M.eff st2 9 1 0 = .ok (0, st3) ∧ M.eff st3 10 1 0 = .ok (0, st4) ∧ M.eff st4 11 1 0 = .ok (0, st5) ∧ M.eff st5 12 2 1 = .ok (1, st6)) := ⟨a1, a2, a3, a4, a5, a6⟩
  clear x3 a1 a2 a3 a4 a5 a6
  have R2 : Hd (6 ≤ rm st2) := r2
  have R6 : Hd (2 ≤ rm st6) := r6
  go_loopw [28] (fun i wr => Fr M.SB w wr ∧ (∃ u, wr.cell? ⟨w.heap.size, 1, none⟩ = u ∧ u = some (.slice (some ⟨fb, 0, none⟩) 1 1)) ∧ ((i = .int .i64 0 ∧ On M wr ({ s with globals := 0, count := 1, at' := 9 }, st2)) ∨
      (i = .int .i64 1 ∧ On M wr (sC, st6)))) (fun i _ => match i with | .int _ q => 1 - q.toNat | _ => 0)
  case atStart => exact ⟨hfw3, ⟨_, rfl, p1⟩, Or.inl ⟨rfl, hon3⟩⟩
  case round =>
    obtain ⟨hfr, ⟨u, pu, hu⟩, ⟨rfl, hon⟩ | ⟨rfl, hon⟩⟩ := hrel
    · subst hu
      have hLr : Least wr fb cb := hl.fr hfr hfb hcb
      obtain ⟨f0, f1, f2, f3, hflt⟩ := hfc hLr
      obtain ⟨-, -, -, -, -, c149, c150, c151, c152, c153, -⟩ := hon.1.facts
      have hz := hon.1.frozen
      have hb := hon.1.lt
      have hfbb : ¬ fb = b := fun e => hfb (Or.inl e)
      have hpw : w.heap.size < wr.heap.size := cell_lt pu
      clear hfc
      go_wp2_with fail
      go_region
      have hl1 := (func_lies 0 0 0 1 (.slice (some ⟨cb, 0, none⟩) 1 1) hon.1)
      have hf1 : Fr (fun k => k = b) wr ((((((wr.setCell ⟨b, 149, none⟩ (vI 0)).setCell ⟨b, 150, none⟩ (vI 0)).setCell ⟨b, 151, none⟩ (vI 0)).setCell ⟨b, 152, none⟩ (.slice (some ⟨cb, 0, none⟩) 1 1)).setCell ⟨b, 153, none⟩ (vI 1)).alloc (.cells #[vI 0, vI 0, vI 0, .slice (some ⟨cb, 0, none⟩) 1 1] 67)).drew :=
        (Fr.alloc (Fr.setCell (Fr.setCell (Fr.setCell (Fr.setCell (Fr.setCell (Fr.refl (fun k => k = b) wr) _ _ (Or.inl rfl)) _ _ (Or.inl rfl)) _ _ (Or.inl rfl)) _ _ (Or.inl rfl)) _ _ (Or.inl rfl)) _).drew
      have hon1 : On M ((((((wr.setCell ⟨b, 149, none⟩ (vI 0)).setCell ⟨b, 150, none⟩ (vI 0)).setCell ⟨b, 151, none⟩ (vI 0)).setCell ⟨b, 152, none⟩ (.slice (some ⟨cb, 0, none⟩) 1 1)).setCell ⟨b, 153, none⟩ (vI 1)).alloc (.cells #[vI 0, vI 0, vI 0, .slice (some ⟨cb, 0, none⟩) 1 1] 67)).drew (sB, st2) := by
        rw [HSB.out]; exact hon.fr hf1 (hl1.alloc _).drew rfl rfl
      generalize ((((((wr.setCell ⟨b, 149, none⟩ (vI 0)).setCell ⟨b, 150, none⟩ (vI 0)).setCell ⟨b, 151, none⟩ (vI 0)).setCell ⟨b, 152, none⟩ (.slice (some ⟨cb, 0, none⟩) 1 1)).setCell ⟨b, 153, none⟩ (vI 1)).alloc (.cells #[vI 0, vI 0, vI 0, .slice (some ⟨cb, 0, none⟩) 1 1] 67)).drew = w4 at hf1 hon1 ⊢
      clear c149 c150 c151 c152 c153 hz f0 f1 f2 f3 hl1
      go_wp2_with fail
      refine (askHead_at M rm hN (sB, st2) w4 hon1 hR (by show 4 ≤ rm st2; have := R2.out; omega)).mono ?_
      rintro e w5 ⟨hf5, hres⟩
      rw [X3.out] at hres
      obtain ⟨rfl, hon5⟩ := hres
      have hf45 : Fr M.SB wr w5 := (hf1.mono (fun k _ hk => Or.inl hk)).trans hf5
      have pu5 : w5.cell? ⟨w.heap.size, 1, none⟩ = some (.slice (some ⟨fb, 0, none⟩) 1 1) := (hf45.cell hpw hps).trans pu
      clear hf1 hf5 pu
      go_wp2_with fail
      exact ⟨⟨hfr.trans hf45, ⟨_, rfl, pu5⟩, Or.inr ⟨by simp, hon5⟩⟩, by simp⟩
    · subst hu
      have hLr : Least wr fb cb := hl.fr hfr hfb hcb
      have hpw : w.heap.size < wr.heap.size := cell_lt pu
      have c147 : wr.cell? ⟨b, 147, none⟩ = some sC.funcs := hon.1.facts.2.2.2.1
      have hz := hon.1.frozen
      have hb := hon.1.lt
      have hpb' : ¬ w.heap.size = b := fun e => hps (Or.inl e)
      clear hfc
      go_wp2_with fail
      have hff : Fr (fun k => k = b) wr (wr.setCell ⟨b, 147, none⟩ (.slice (some ⟨fb, 0, none⟩) 1 1)) := Fr.setCell (Fr.refl (fun k => k = b) wr) _ _ (Or.inl rfl)
      have honf : On M (wr.setCell ⟨b, 147, none⟩ (.slice (some ⟨fb, 0, none⟩) 1 1)) ({ sC with funcs := .slice (some ⟨fb, 0, none⟩) 1 1 }, st6) := hon.fr hff (hon.1.setCell 147 _ (cells_funcs _ _)) rfl rfl
      have hfw : Fr M.SB w (wr.setCell ⟨b, 147, none⟩ (.slice (some ⟨fb, 0, none⟩) 1 1)) := hfr.trans (hff.mono (fun k _ hk => Or.inl hk))
      generalize (wr.setCell ⟨b, 147, none⟩ (.slice (some ⟨fb, 0, none⟩) 1 1)) = wf at hff honf hfw ⊢
      obtain ⟨sE, HSE⟩ : ∃ sE, Hd (sE = ({ sC with funcs := .slice (some ⟨fb, 0, none⟩) 1 1, fP := 0, fR := 0, fV := 0, fC := .slice (some ⟨cb, 0, none⟩) 1 1, len := 1 } : WS)) := ⟨_, rfl⟩
      obtain ⟨sG, HSG⟩ : ∃ sG, Hd (sG = ({ sE with op := 15, r := 0, s := 0, t := 0, n := 0, args := nilS, rets := nilS } : WS)) := ⟨_, rfl⟩
      have g14 : sG.at' = 14 := by rw [HSG.out, HSE.out, HSC.out]
      have gop : sG.op = 15 := by rw [HSG.out]
      obtain ⟨st7, st8, a7, a8, x7, x8, -, r7⟩ := instr_keep hK hR 0 sG st6 (by have := R6.out; omega) g14 gop
      have X7 : Hd (nextX M 154 1 (sG, st6) = .ok ({ sG with at' := 15 }, st7)) := x7
      have X8 : Hd (retX M 0 (frontOk M true false true 0 14 ({ sG with at' := 15 }, st7)) = .ok (([], []), ({ sG with at' := 16, count := 0 }, st8))) := x8
      have hlo8 : Hd (sG.locs = 1) := by unfold Hd; rw [HSG.out, HSE.out, HSC.out]
      have CH8 : Hd (Chain8 M st0 st8) := ⟨st1, st2, st3, st4, st5, st6, st7, CH.out.1, CH.out.2.1, CH.out.2.2.1, CH.out.2.2.2.1, CH.out.2.2.2.2.1, CH.out.2.2.2.2.2, a7, a8⟩
      have G14 : Hd (sG.at' = 14) := g14
      have GOP : Hd (sG.op = 15) := gop
      have hRG : Hd (sG.fR = ((0 : Nat) : Int) ∧ sG.len = 1 ∧ sG.args = nilS ∧ sG.rets = nilS ∧ sG.r = 0 ∧ sG.s = 0 ∧ sG.t = 0 ∧ sG.n = 0) := by
        unfold Hd; rw [HSG.out, HSE.out]; exact ⟨rfl, rfl, rfl, rfl, rfl, rfl, rfl, rfl⟩
      clear a7 a8 x7 x8 g14 gop c147 hz hb pu hon hff
      go_loopw [53] (fun i wr => Fr M.SB w wr ∧ ((i = .int .i64 0 ∧ On M wr ({ sC with funcs := .slice (some ⟨fb, 0, none⟩) 1 1 }, st6)) ∨ (i = .int .i64 1 ∧ ∃ s8, On M wr (s8, st8) ∧ s8.locs = 1))) (fun i _ => match i with | .int _ q => 1 - q.toNat | _ => 0)
      case atStart => exact ⟨hfw, Or.inl ⟨rfl, honf⟩⟩
      case round =>
        obtain ⟨hfr2, ⟨rfl, hon⟩ | ⟨rfl, s8, hon, hs8⟩⟩ := hrel
        · have hLr : Least wr fb cb := hl.fr hfr2 hfb hcb
          obtain ⟨f0, f1, f2, f3, hflt⟩ := least_cells hLr
          obtain ⟨-, -, -, -, -, c149, c150, c151, c152, c153, -⟩ := hon.1.facts
          have hz := hon.1.frozen
          have hb := hon.1.lt
          have hfbb : ¬ fb = b := fun e => hfb (Or.inl e)
          go_wp2_with fail
          go_region
          have hl1 := (func_lies 0 0 0 1 (.slice (some ⟨cb, 0, none⟩) 1 1) hon.1)
          have hf1 : Fr (fun k => k = b) wr ((((((wr.setCell ⟨b, 149, none⟩ (vI 0)).setCell ⟨b, 150, none⟩ (vI 0)).setCell ⟨b, 151, none⟩ (vI 0)).setCell ⟨b, 152, none⟩ (.slice (some ⟨cb, 0, none⟩) 1 1)).setCell ⟨b, 153, none⟩ (vI 1)).alloc (.cells #[vI 0, vI 0, vI 0, .slice (some ⟨cb, 0, none⟩) 1 1] 67)).drew :=
            (Fr.alloc (Fr.setCell (Fr.setCell (Fr.setCell (Fr.setCell (Fr.setCell (Fr.refl (fun k => k = b) wr) _ _ (Or.inl rfl)) _ _ (Or.inl rfl)) _ _ (Or.inl rfl)) _ _ (Or.inl rfl)) _ _ (Or.inl rfl)) _).drew
          have hon1 : On M ((((((wr.setCell ⟨b, 149, none⟩ (vI 0)).setCell ⟨b, 150, none⟩ (vI 0)).setCell ⟨b, 151, none⟩ (vI 0)).setCell ⟨b, 152, none⟩ (.slice (some ⟨cb, 0, none⟩) 1 1)).setCell ⟨b, 153, none⟩ (vI 1)).alloc (.cells #[vI 0, vI 0, vI 0, .slice (some ⟨cb, 0, none⟩) 1 1] 67)).drew (sE, st6) := by
            rw [HSE.out]; exact hon.fr hf1 (hl1.alloc _).drew rfl rfl
          have hcf : ((((((wr.setCell ⟨b, 149, none⟩ (vI 0)).setCell ⟨b, 150, none⟩ (vI 0)).setCell ⟨b, 151, none⟩ (vI 0)).setCell ⟨b, 152, none⟩ (.slice (some ⟨cb, 0, none⟩) 1 1)).setCell ⟨b, 153, none⟩ (vI 1)).alloc (.cells #[vI 0, vI 0, vI 0, .slice (some ⟨cb, 0, none⟩) 1 1] 67)).drew.cell? ⟨wr.heap.size, 3, none⟩ = some (.slice (some ⟨cb, 0, none⟩) 1 1) := by
            rw [World.cell?_drew, World.cell?_alloc_at _ _ _ _ (by simp)]; rfl
          generalize ((((((wr.setCell ⟨b, 149, none⟩ (vI 0)).setCell ⟨b, 150, none⟩ (vI 0)).setCell ⟨b, 151, none⟩ (vI 0)).setCell ⟨b, 152, none⟩ (.slice (some ⟨cb, 0, none⟩) 1 1)).setCell ⟨b, 153, none⟩ (vI 1)).alloc (.cells #[vI 0, vI 0, vI 0, .slice (some ⟨cb, 0, none⟩) 1 1] 67)).drew = w4 at hf1 hon1 hcf ⊢
          have hf4w : Fr M.SB w w4 := hfr2.trans (hf1.mono (fun k _ hk => Or.inl hk))
          clear c149 c150 c151 c152 c153 hz f0 f1 f2 f3 hl1 hon hb
          go_wp2_with fail
          go_loopw [70] (fun i wr => Fr M.SB w wr ∧ ((i = .int .i64 0 ∧ On M wr (sE, st6)) ∨ (i = .int .i64 1 ∧ ∃ s8, On M wr (s8, st8) ∧ s8.locs = 1))) (fun i _ => match i with | .int _ q => 1 - q.toNat | _ => 0)
          case atStart => exact ⟨hf4w, Or.inl ⟨rfl, hon1⟩⟩
          case round =>
            obtain ⟨hfr3, ⟨rfl, hon⟩ | ⟨rfl, s8, hon, hs8⟩⟩ := hrel
            · have hLr : Least wr fb cb := hl.fr hfr3 hfb hcb
              obtain ⟨k0, k1, k2, k3, k4, k5, k6, hclt⟩ := least_code hLr
              obtain ⟨-, -, -, -, -, -, -, -, -, -, d0, d1, d2, d3, d4, d5, d6, -⟩ := hon.1.facts
              have hz := hon.1.frozen
              have hb := hon.1.lt
              have hcbb : ¬ cb = b := fun e => hcb (Or.inl e)
              go_wp2_with fail
              have hil := instr_lies hon.1
              have hf7 : Fr (fun k => k = b) wr ((((((((wr.setCell ⟨b, 154, none⟩ (vI 15)).setCell ⟨b, 155, none⟩ (vI 0)).setCell ⟨b, 156, none⟩ (vI 0)).setCell ⟨b, 157, none⟩ (vI 0)).setCell ⟨b, 158, none⟩ (vI 0)).setCell ⟨b, 159, none⟩ nilS).setCell ⟨b, 160, none⟩ nilS).alloc (.cells #[vI 15, vI 0, vI 0, vI 0, vI 0, .slice none 0 0, .slice none 0 0] 71)) :=
                Fr.alloc (Fr.setCell (Fr.setCell (Fr.setCell (Fr.setCell (Fr.setCell (Fr.setCell (Fr.setCell (Fr.refl (fun k => k = b) wr) _ _ (Or.inl rfl)) _ _ (Or.inl rfl)) _ _ (Or.inl rfl)) _ _ (Or.inl rfl)) _ _ (Or.inl rfl)) _ _ (Or.inl rfl)) _ _ (Or.inl rfl)) _
              have hong : On M ((((((((wr.setCell ⟨b, 154, none⟩ (vI 15)).setCell ⟨b, 155, none⟩ (vI 0)).setCell ⟨b, 156, none⟩ (vI 0)).setCell ⟨b, 157, none⟩ (vI 0)).setCell ⟨b, 158, none⟩ (vI 0)).setCell ⟨b, 159, none⟩ nilS).setCell ⟨b, 160, none⟩ nilS).alloc (.cells #[vI 15, vI 0, vI 0, vI 0, vI 0, .slice none 0 0, .slice none 0 0] 71)) (sG, st6) := by
                rw [HSG.out]; exact hon.fr hf7 (hil.alloc _) rfl rfl
              change Calls Tryd.prog 65 _ ((((((((wr.setCell ⟨b, 154, none⟩ (vI 15)).setCell ⟨b, 155, none⟩ (vI 0)).setCell ⟨b, 156, none⟩ (vI 0)).setCell ⟨b, 157, none⟩ (vI 0)).setCell ⟨b, 158, none⟩ (vI 0)).setCell ⟨b, 159, none⟩ nilS).setCell ⟨b, 160, none⟩ nilS).alloc (.cells #[vI 15, vI 0, vI 0, vI 0, vI 0, .slice none 0 0, .slice none 0 0] 71)) _
              generalize ((((((((wr.setCell ⟨b, 154, none⟩ (vI 15)).setCell ⟨b, 155, none⟩ (vI 0)).setCell ⟨b, 156, none⟩ (vI 0)).setCell ⟨b, 157, none⟩ (vI 0)).setCell ⟨b, 158, none⟩ (vI 0)).setCell ⟨b, 159, none⟩ nilS).setCell ⟨b, 160, none⟩ nilS).alloc (.cells #[vI 15, vI 0, vI 0, vI 0, vI 0, .slice none 0 0, .slice none 0 0] 71)) = w6 at hf7 hong ⊢
              obtain ⟨q1, q2, q3, q4, q5, q6, q7, q8⟩ := hRG.out
              clear k0 k1 k2 k3 k4 k5 k6 d0 d1 d2 d3 d4 d5 d6 hz hil
              have hcall := instr_15at M rm hN hR (sG, st6) ({ sG with at' := 15 }, st7) w6 hong (by show 2 ≤ rm st6; exact R6.out) 0 (by omega) X7.out GOP.out (by show 0 ≤ sG.len; omega) (by show sG.len ≤ 4096; omega) true
                (fun w1 hl' => namesAll_15 ({ sG with at' := 15 } : WS) w1 hl' none none 0 0 0 0 q3 q4 q5 q6 q7 q8 (by show lenOf sG.rets = 0; rw [q4]; rfl)) q3 q4 0 q1 rfl
              rw [show ((sG, st6) : WS × M.σ).1.at' = 14 from G14.out, X8.out] at hcall
              refine hcall.mono ?_
              rintro e w7 ⟨hf77, rfl, av, rv, -, -, hon7⟩
              have hf67 : Fr M.SB wr w7 := (hf7.mono (fun k _ hk => Or.inl hk)).trans hf77
              have hon8 : ∃ s8, On M w7 (s8, st8) ∧ s8.locs = 1 := ⟨_, hon7, hlo8.out⟩
              clear hcall hf7 hf77 hon7 q1 q2 q3 q4 q5 q6 q7 q8
              go_wp2_with fail
              exact ⟨⟨hfr3.trans hf67, Or.inr ⟨by simp, hon8⟩⟩, by simp⟩
            · go_wp2_with fail
              exact ⟨⟨hfr3, Or.inr ⟨by simp, s8, hon, hs8⟩⟩, by simp⟩
        · go_wp2_with fail
          go_end0
          exact ⟨rfl, hfr2, s8, st8, hon, hs8, CH8.out⟩
end Go.Proofs.YtingenonbkencaaDoor

namespace Go.Proofs.YtingenonbkencaaDoor
open Go.RowKit (wrap32 wrap64)
set_option linter.unusedVariables false
set_option linter.unusedSimpArgs false

theorem then_ok {α β : Type} {c : X α} {p : α → X β} {y : β} (h : thenX c p = .ok y) : ∃ x, c = .ok x ∧ p x = .ok y := by
  cases c with
  | ok x => exact ⟨x, rfl, h⟩
  | error z => cases h

theorem instrL_kept {b : Nat} {heads : List (Nat × Nat)} {fR i : Nat} {la lr : List Int} {s : WS} {y : WS × Unit} (h : instrL (b := b) heads fR i la lr s = .ok y) : Kept s y.1 := by
  have h0 : Kept s ({ s with at' := adv s.at' 1 } : WS) := ⟨rfl, rfl, rfl, rfl, rfl, rfl, rfl, rfl, rfl, rfl, rfl⟩
  by_cases h1 : 1 ≤ s.op ∧ s.op ≤ 17
  · by_cases h15 : s.op = 15
    · obtain ⟨x, e1, e2⟩ := then_ok ((instrL_15 heads fR i la lr s h15).symm.trans h)
      exact (h0.trans (frontOk_kept e1)).trans (listL_kept e2).1
    · by_cases h11 : s.op = 11
      · obtain ⟨x, e1, e2⟩ := then_ok ((instrL_11 heads fR i la lr s h11).symm.trans h)
        obtain ⟨x1, e3, e4⟩ := then_ok e1
        obtain ⟨x2, e5, e6⟩ := then_ok e2
        exact (((h0.trans (frontOk_kept e3)).trans (askX_kept (by simp) e4)).trans (listL_kept e5).1).trans (listL_kept e6).1
      · have e := (instrL_k heads fR i la lr s h1 h15 h11).symm.trans h
        have hk : KeepsX (M := leaving b) s (frontOk (leaving b) (s.op == 13) (s.op == 6) (nbK s.op.toNat s la.length lr.length) i s.at' ({ s with at' := adv s.at' 1 }, ())) := fun y hy => h0.trans (frontOk_kept hy)
        exact partsX_kept s.op.toNat hk y e
  · cases (instrL_no heads fR i la lr s h1).symm.trans h

/-- A function in the walk's hands, with its code where it lies. -/
def inFv (f : PF) (cv : Value) (s : WS) : WS := { s with fP := f.P, fR := f.R, fV := f.V, fC := cv, len := (f.code.length : Nat) }
theorem inFv_bare (f : PF) (cv : Value) (s : WS) : (inFv f cv s).bare = (inF f s).bare := rfl
def inIv (c : PI) (av rv : Value) (s : WS) : WS := { s with op := c.op, r := c.r, s := c.s, t := c.t, n := c.n, args := av, rets := rv }
theorem inIv_bare (c : PI) (av rv : Value) (s : WS) : (inIv c av rv s).bare = (inI c s).bare := rfl

theorem inIv_lies {w : World} {b : Nat} {s : WS} (c : PI) (av rv : Value) (h : Lies w b s) :
    Lies (((((((w.setCell ⟨b, 154, none⟩ (vI c.op)).setCell ⟨b, 155, none⟩ (vI c.r)).setCell ⟨b, 156, none⟩ (vI c.s)).setCell ⟨b, 157, none⟩ (vI c.t)).setCell ⟨b, 158, none⟩ (vI c.n)).setCell ⟨b, 159, none⟩ av).setCell ⟨b, 160, none⟩ rv) b (inIv c av rv s) := by
  have h1 := h.setCell (s' := { s with op := c.op }) 154 (vI c.op) (by kernel_rfl)
  have h2 := h1.setCell (s' := { s with op := c.op, r := c.r }) 155 (vI c.r) (by kernel_rfl)
  have h3 := h2.setCell (s' := { s with op := c.op, r := c.r, s := c.s }) 156 (vI c.s) (by kernel_rfl)
  have h4 := h3.setCell (s' := { s with op := c.op, r := c.r, s := c.s, t := c.t }) 157 (vI c.t) (by kernel_rfl)
  have h5 := h4.setCell (s' := { s with op := c.op, r := c.r, s := c.s, t := c.t, n := c.n }) 158 (vI c.n) (by kernel_rfl)
  have h6 := h5.setCell (s' := { s with op := c.op, r := c.r, s := c.s, t := c.t, n := c.n, args := av }) 159 av (by kernel_rfl)
  exact h6.setCell (s' := inIv c av rv s) 160 rv (by kernel_rfl)

theorem fr_L {b : Nat} {w w' : World} (h : Fr (leaving b).SB w w') : Fr (fun k => k = b) w w' := h.mono (fun _ _ hk => L_SB hk)

set_option maxRecDepth 100000 in
set_option maxHeartbeats 4000000 in
theorem over_any {b : Nat} (s : WS) (w : World) (h : On (leaving b) w (s, ())) (G : Int) (fsv : Value) (fs : List PF) (hL : FL b w fsv fs) :
    Calls Tryd.prog 36 #[.pointer (some ⟨b, 0, none⟩), .agg #[vI G, fsv]] w (OverEnds b (overP b G fs s) w) := by
  obtain ⟨c2, -, c146, c147, -, c149, c150, c151, c152, c153, -, -, -, -, -, -, -, c161⟩ := h.1.facts
  have hz := h.1.frozen
  have hb := h.1.lt
  obtain ⟨hlen, fa, fcap, rfl, hin⟩ := hL
  have HIN : Hd _ := hin
  have HL : Hd (FL b w (.slice fa fs.length fcap) fs) := ⟨hlen, fa, fcap, rfl, hin⟩
  clear hin
  obtain ⟨T, HT⟩ : ∃ T, Hd (T = overP b G fs s) := ⟨_, rfl⟩
  rw [← HT.out]
  go_enter Tryd.func36, Tryd.ntmps36
  go_wp2_with fail
  go_region
  have hl1 : Lies ((w.setCell ⟨b, 146, none⟩ (vI G)).setCell ⟨b, 161, none⟩ (vI fs.length)) b { s with globals := G, count := (fs.length : Nat) } :=
    (h.1.setCell 146 _ (cells_set s 146 G (by simp [places]))).setCell 161 _ (cells_set _ 161 _ (by simp [places]))
  have hf1 : Fr (fun k => k = b) w (((w.setCell ⟨b, 146, none⟩ (vI G)).setCell ⟨b, 161, none⟩ (vI fs.length)).alloc (.cells #[vI G, .slice fa fs.length fcap] 26)).drew :=
    (Fr.alloc (Fr.setCell (Fr.setCell (Fr.refl (fun k => k = b) w) _ _ (Or.inl rfl)) _ _ (Or.inl rfl)) _).drew
  have hpb : (((w.setCell ⟨b, 146, none⟩ (vI G)).setCell ⟨b, 161, none⟩ (vI fs.length)).alloc (.cells #[vI G, .slice fa fs.length fcap] 26)).drew.heap[w.heap.size]? = some (.cells #[vI G, .slice fa fs.length fcap] 26) := by
    have hsz : ((w.setCell ⟨b, 146, none⟩ (vI G)).setCell ⟨b, 161, none⟩ (vI fs.length)).heap.size = w.heap.size := by simp
    have := heap_alloc_last ((w.setCell ⟨b, 146, none⟩ (vI G)).setCell ⟨b, 161, none⟩ (vI fs.length)) (.cells #[vI G, .slice fa fs.length fcap] 26)
    rw [hsz] at this
    exact this
  have hon1 : On (leaving b) (((w.setCell ⟨b, 146, none⟩ (vI G)).setCell ⟨b, 161, none⟩ (vI fs.length)).alloc (.cells #[vI G, .slice fa fs.length fcap] 26)).drew ({ s with globals := G, count := (fs.length : Nat) }, ()) := h.fr hf1 (hl1.alloc _).drew rfl rfl
  generalize (((w.setCell ⟨b, 146, none⟩ (vI G)).setCell ⟨b, 161, none⟩ (vI fs.length)).alloc (.cells #[vI G, .slice fa fs.length fcap] 26)).drew = w1 at hf1 hon1 hpb ⊢
  clear hl1 c2 c146 c147 c149 c150 c151 c152 c153 c161 hz
  go_wp2_with fail
  refine (askGlobals_any (leaving b) (leaving_own b) _ w1 hon1).mono ?_
  rintro e w2 ⟨hf2, hres⟩
  have hfa : Fr (fun k => k = b) w w2 := hf1.trans (fr_L hf2)
  cases hx : askX (leaving b) 146 1 (fun s => decide (0 ≤ s.globals ∧ s.globals ≤ 16)) 18 ({ s with globals := G, count := (fs.length : Nat) }, ()) with
  | error z =>
    rw [hx] at hres
    have hres : e = .panicked (viol z.1 z.2) := hres
    subst hres
    have hTz : Hd (T = .error z) := by
      unfold Hd; rw [HT.out]; unfold overP
      rw [hx]; rfl
    clear hx
    go_wp2_with fail
    exact ⟨rfl, overEnds_err hTz.out hfa⟩
  | ok y1 =>
  rw [hx] at hres
  obtain ⟨rfl, hon2⟩ := hres
  have HT1 : Hd (T = thenX (askX (leaving b) 161 2 (fun s => decide (1 ≤ s.count ∧ s.count ≤ 65535)) 20 y1) fun y => thenX (headsP b fs y.1) fun y => funcsP b (headsOfP fs) fs y.1) := by
    unfold Hd; rw [HT.out]; unfold overP
    rw [hx]; rfl
  have hc1 : y1.1.count = (fs.length : Nat) := by
    rw [L_ask] at hx
    split at hx
    · cases hx; rfl
    · cases hx
  clear hx HT
  go_wp2_with fail
  refine (askFunctions_any (leaving b) (leaving_own b) y1 w2 hon2).mono ?_
  rintro e w3 ⟨hf3, hres⟩
  have hfb : Fr (fun k => k = b) w w3 := hfa.trans (fr_L hf3)
  cases hx : askX (leaving b) 161 2 (fun s => decide (1 ≤ s.count ∧ s.count ≤ 65535)) 20 y1 with
  | error z =>
    rw [hx] at hres
    have hres : e = .panicked (viol z.1 z.2) := hres
    subst hres
    have hTz : Hd (T = .error z) := by
      unfold Hd; rw [HT1.out, hx]; rfl
    clear hx
    go_wp2_with fail
    exact ⟨rfl, overEnds_err hTz.out hfb⟩
  | ok y2 =>
  rw [hx] at hres
  obtain ⟨rfl, hon3⟩ := hres
  have HT2 : Hd (SimX (thenX (headsP b (fs.drop 0) y2.1) fun y => funcsP b (headsOfP fs) fs y.1) T) := by
    unfold Hd; rw [HT1.out, hx]; exact SimX.refl _
  have hnf : 1 ≤ fs.length ∧ fs.length ≤ 65535 := by
    obtain ⟨s1, u1⟩ := y1
    have hc1 : s1.count = (fs.length : Nat) := hc1
    have hx := (L_ask (b := b) 161 2 (fun s => decide (1 ≤ s.count ∧ s.count ≤ 65535)) 20 s1 u1).symm.trans hx
    split at hx
    · rename_i hd
      have hd := of_decide_eq_true hd
      have hd : 1 ≤ s1.count ∧ s1.count ≤ 65535 := hd
      omega
    · cases hx
  clear hx HT1 hc1
  have hp3 : w3.cell? ⟨w.heap.size, 1, none⟩ = some (.slice fa fs.length fcap) := by
    have hpl := (Array.getElem?_eq_some_iff.1 hpb).1
    have e13 : Fr (fun k => k = b) w1 w3 := (fr_L hf2).trans (fr_L hf3)
    have : w3.heap[w.heap.size]? = some (.cells #[vI G, .slice fa fs.length fcap] 26) := by rw [e13.block _ hpl (by omega)]; exact hpb
    unfold World.cell?; simp [this]
  obtain ⟨fk, fo, rfl, hfk, hfkb, hfc⟩ := HIN.out (by intro e; simp [e] at hnf)
  have HFC : Hd _ := hfc
  have HFN : Hd (1 ≤ fs.length ∧ fs.length ≤ 65535) := hnf
  have hps : ¬ w.heap.size = b := by omega
  have hplt : w.heap.size < w3.heap.size := cell_lt hp3
  clear hf1 hf2 hf3 hfa hpb hon1 hon2 hfc HIN h hnf
  go_wp2_with fail
  go_loopw [28] (fun i wr => ∃ (k : Nat) (s1 : WS), k ≤ fs.length ∧ i = .int .i64 k ∧ On (leaving b) wr (s1, ()) ∧ Fr (fun j => j = b) w3 wr ∧ Hd (SimX (thenX (headsP b (fs.drop k) s1) fun y => funcsP b (headsOfP fs) fs y.1) T) ∧ Hd (∀ f ∈ fs.take k, FineF f)) (fun i _ => match i with | .int _ q => fs.length - q.toNat | _ => 0)
  case atStart => exact ⟨0, y2.1, Nat.zero_le _, rfl, hon3, Fr.refl _ _, HT2, by unfold Hd; simp⟩
  case round =>
    obtain ⟨k, s1, hk, rfl, hon, hfr, hvx, hfin⟩ := hrel
    have hfw : Fr (fun j => j = b) w wr := hfb.trans hfr
    have hpu : wr.cell? ⟨w.heap.size, 1, none⟩ = some (.slice (some ⟨fk, fo, none⟩) fs.length fcap) := (hfr.cell hplt hps).trans hp3
    by_cases hlt : k < fs.length
    · obtain ⟨cv, f0, f1, f2, f3, hcl⟩ := HFC.out k hlt
      have hcl : CL b wr cv fs[k].code := hcl.fr hfw (fun k h => h)
      have gg : ∀ o, wr.cell? ⟨fk, o, none⟩ = w.cell? ⟨fk, o, none⟩ := fun o => hfw.cell hfk hfkb
      rw [← gg] at f0 f1 f2 f3
      clear gg
      obtain ⟨hcl0, ca, ccap, rfl, -⟩ := hcl
      have hst := heads_step hlt (s2 := inFv fs[k] (.slice ca fs[k].code.length ccap) s1) hvx.out rfl
      have HST : Hd _ := hst
      clear hst
      obtain ⟨-, -, -, -, -, c149, c150, c151, c152, c153, -⟩ := hon.1.facts
      have hz := hon.1.frozen
      have hb' := hon.1.lt
      go_wp2_with fail
      go_region
      have hl1 := (func_lies fs[k].P fs[k].R fs[k].V fs[k].code.length (.slice ca fs[k].code.length ccap) hon.1)
      have hf1 : Fr (fun k => k = b) wr ((((((wr.setCell ⟨b, 149, none⟩ (vI fs[k].P)).setCell ⟨b, 150, none⟩ (vI fs[k].R)).setCell ⟨b, 151, none⟩ (vI fs[k].V)).setCell ⟨b, 152, none⟩ (.slice ca fs[k].code.length ccap)).setCell ⟨b, 153, none⟩ (vI fs[k].code.length)).alloc (.cells #[vI fs[k].P, vI fs[k].R, vI fs[k].V, .slice ca fs[k].code.length ccap] 67)).drew :=
        (Fr.alloc (Fr.setCell (Fr.setCell (Fr.setCell (Fr.setCell (Fr.setCell (Fr.refl (fun k => k = b) wr) _ _ (Or.inl rfl)) _ _ (Or.inl rfl)) _ _ (Or.inl rfl)) _ _ (Or.inl rfl)) _ _ (Or.inl rfl)) _).drew
      have hon1 : On (leaving b) ((((((wr.setCell ⟨b, 149, none⟩ (vI fs[k].P)).setCell ⟨b, 150, none⟩ (vI fs[k].R)).setCell ⟨b, 151, none⟩ (vI fs[k].V)).setCell ⟨b, 152, none⟩ (.slice ca fs[k].code.length ccap)).setCell ⟨b, 153, none⟩ (vI fs[k].code.length)).alloc (.cells #[vI fs[k].P, vI fs[k].R, vI fs[k].V, .slice ca fs[k].code.length ccap] 67)).drew (inFv fs[k] (.slice ca fs[k].code.length ccap) s1, ()) := hon.fr hf1 (hl1.alloc _).drew rfl rfl
      generalize ((((((wr.setCell ⟨b, 149, none⟩ (vI fs[k].P)).setCell ⟨b, 150, none⟩ (vI fs[k].R)).setCell ⟨b, 151, none⟩ (vI fs[k].V)).setCell ⟨b, 152, none⟩ (.slice ca fs[k].code.length ccap)).setCell ⟨b, 153, none⟩ (vI fs[k].code.length)).alloc (.cells #[vI fs[k].P, vI fs[k].R, vI fs[k].V, .slice ca fs[k].code.length ccap] 67)).drew = w4 at hf1 hon1 ⊢
      clear c149 c150 c151 c152 c153 hz f0 f1 f2 f3 hl1 hon hvx
      have HFI : Hd (∀ y, headX (leaving b) (inFv fs[k] (.slice ca fs[k].code.length ccap) s1, ()) = .ok y → FineF fs[k]) := fun y hy => head_fine rfl rfl rfl rfl hy
      go_wp2_with fail
      refine (askHead_any (leaving b) (leaving_own b) _ w4 hon1).mono ?_
      rintro e w5 ⟨hf5, hres⟩
      have hf45 : Fr (fun k => k = b) wr w5 := hf1.trans (fr_L hf5)
      cases hx : headX (leaving b) (inFv fs[k] (.slice ca fs[k].code.length ccap) s1, ()) with
      | error z =>
        rw [hx] at hres
        have hres : e = .panicked (viol z.1 z.2) := hres
        subst hres
        have hTz : Hd (T = .error z) := HST.out.1 z hx
        clear hx
        go_wp2_with fail
        exact ⟨rfl, overEnds_err hTz.out (hfw.trans hf45)⟩
      | ok y =>
        rw [hx] at hres
        obtain ⟨rfl, hon5⟩ := hres
        have hn : Hd (SimX (thenX (headsP b (fs.drop (k + 1)) y.1) fun y => funcsP b (headsOfP fs) fs y.1) T) := HST.out.2 y hx
        have hfin2 : Hd (∀ f ∈ fs.take (k + 1), FineF f) := by
          have hf0 := HFI.out y hx
          unfold Hd
          rw [List.take_succ_eq_append_getElem hlt]
          intro f hf
          rcases List.mem_append.1 hf with hf | hf
          · exact hfin.out f hf
          · rw [List.mem_singleton] at hf; rw [hf]; exact hf0
        clear hx HST HFI hfin hf1 hf5 hon1
        go_wp2_with fail
        exact ⟨⟨k + 1, y.1, by omega, by simp, hon5, hfr.trans hf45, hn, hfin2⟩, by simp; omega⟩
    · have hkl : k = fs.length := by omega
      have hvx2 : Hd (SimX (funcsP b (headsOfP fs) (fs.drop 0) s1) T) := heads_end hkl hvx.out
      have HFIN : Hd (∀ f ∈ fs, FineF f) := by
        have := hfin.out
        rw [hkl, List.take_length] at this
        exact this
      clear hvx hfin
      subst hkl
      have c147 := hon.1.facts.2.2.2.1
      have hz := hon.1.frozen
      have hb' := hon.1.lt
      go_wp2_with fail
      have hff : Fr (fun k => k = b) wr (wr.setCell ⟨b, 147, none⟩ (.slice (some ⟨fk, fo, none⟩) fs.length fcap)) := Fr.setCell (Fr.refl (fun k => k = b) wr) _ _ (Or.inl rfl)
      have honf : On (leaving b) (wr.setCell ⟨b, 147, none⟩ (.slice (some ⟨fk, fo, none⟩) fs.length fcap)) ({ s1 with funcs := .slice (some ⟨fk, fo, none⟩) fs.length fcap }, ()) := hon.fr hff (hon.1.setCell 147 _ (cells_funcs _ _)) rfl rfl
      have hfw2 : Fr (fun k => k = b) w (wr.setCell ⟨b, 147, none⟩ (.slice (some ⟨fk, fo, none⟩) fs.length fcap)) := hfw.trans hff
      have hvx3 : Hd (SimX (funcsP b (headsOfP fs) (fs.drop 0) { s1 with funcs := .slice (some ⟨fk, fo, none⟩) fs.length fcap }) T) := (sim_funcsP b (headsOfP fs) (fs.drop 0) { s1 with funcs := .slice (some ⟨fk, fo, none⟩) fs.length fcap } s1 rfl).trans hvx2.out
      generalize (wr.setCell ⟨b, 147, none⟩ (.slice (some ⟨fk, fo, none⟩) fs.length fcap)) = wf at hff honf hfw2 ⊢
      clear c147 hz hb' hpu hff hon hvx2 hfw hfr hp3 hfb hon3 HT2 hplt
      go_loopw [53] (fun i wr => ∃ (j : Nat) (s2 : WS), j ≤ fs.length ∧ i = .int .i64 j ∧ On (leaving b) wr (s2, ()) ∧ Fr (fun j => j = b) w wr ∧ Hd (s2.funcs = .slice (some ⟨fk, fo, none⟩) fs.length fcap) ∧ Hd (SimX (funcsP b (headsOfP fs) (fs.drop j) s2) T)) (fun i _ => match i with | .int _ q => fs.length - q.toNat | _ => 0)
      case atStart => exact ⟨0, _, Nat.zero_le _, rfl, honf, hfw2, rfl, hvx3⟩
      case round =>
        clear honf hfw2 hvx3
        obtain ⟨j, s2, hj, rfl, hon, hfr, hsf, hvx⟩ := hrel
        by_cases hlt : j < fs.length
        · obtain ⟨cv, f0, f1, f2, f3, hcl⟩ := HFC.out j hlt
          have HCL : Hd (CL b w cv fs[j].code) := hcl
          have gg : ∀ o, wr.cell? ⟨fk, o, none⟩ = w.cell? ⟨fk, o, none⟩ := fun o => hfr.cell hfk hfkb
          rw [← gg] at f0 f1 f2 f3
          clear gg
          obtain ⟨hcl0, ca, ccap, rfl, -⟩ := hcl
          have hst : Hd _ := funcs_begin hlt (s2 := inFv fs[j] (.slice ca fs[j].code.length ccap) s2) hvx.out rfl
          obtain ⟨-, -, -, -, -, c149, c150, c151, c152, c153, -⟩ := hon.1.facts
          have hz := hon.1.frozen
          have hb' := hon.1.lt
          go_wp2_with fail
          go_region
          have hl1 := (func_lies fs[j].P fs[j].R fs[j].V fs[j].code.length (.slice ca fs[j].code.length ccap) hon.1)
          have hf1 : Fr (fun k => k = b) wr ((((((wr.setCell ⟨b, 149, none⟩ (vI fs[j].P)).setCell ⟨b, 150, none⟩ (vI fs[j].R)).setCell ⟨b, 151, none⟩ (vI fs[j].V)).setCell ⟨b, 152, none⟩ (.slice ca fs[j].code.length ccap)).setCell ⟨b, 153, none⟩ (vI fs[j].code.length)).alloc (.cells #[vI fs[j].P, vI fs[j].R, vI fs[j].V, .slice ca fs[j].code.length ccap] 67)).drew :=
            (Fr.alloc (Fr.setCell (Fr.setCell (Fr.setCell (Fr.setCell (Fr.setCell (Fr.refl (fun k => k = b) wr) _ _ (Or.inl rfl)) _ _ (Or.inl rfl)) _ _ (Or.inl rfl)) _ _ (Or.inl rfl)) _ _ (Or.inl rfl)) _).drew
          have hon1 : On (leaving b) ((((((wr.setCell ⟨b, 149, none⟩ (vI fs[j].P)).setCell ⟨b, 150, none⟩ (vI fs[j].R)).setCell ⟨b, 151, none⟩ (vI fs[j].V)).setCell ⟨b, 152, none⟩ (.slice ca fs[j].code.length ccap)).setCell ⟨b, 153, none⟩ (vI fs[j].code.length)).alloc (.cells #[vI fs[j].P, vI fs[j].R, vI fs[j].V, .slice ca fs[j].code.length ccap] 67)).drew (inFv fs[j] (.slice ca fs[j].code.length ccap) s2, ()) := hon.fr hf1 (hl1.alloc _).drew rfl rfl
          have hcf : ((((((wr.setCell ⟨b, 149, none⟩ (vI fs[j].P)).setCell ⟨b, 150, none⟩ (vI fs[j].R)).setCell ⟨b, 151, none⟩ (vI fs[j].V)).setCell ⟨b, 152, none⟩ (.slice ca fs[j].code.length ccap)).setCell ⟨b, 153, none⟩ (vI fs[j].code.length)).alloc (.cells #[vI fs[j].P, vI fs[j].R, vI fs[j].V, .slice ca fs[j].code.length ccap] 67)).drew.cell? ⟨wr.heap.size, 3, none⟩ = some (.slice ca fs[j].code.length ccap) := by
            rw [World.cell?_drew, World.cell?_alloc_at _ _ _ _ (by simp)]; rfl
          generalize ((((((wr.setCell ⟨b, 149, none⟩ (vI fs[j].P)).setCell ⟨b, 150, none⟩ (vI fs[j].R)).setCell ⟨b, 151, none⟩ (vI fs[j].V)).setCell ⟨b, 152, none⟩ (.slice ca fs[j].code.length ccap)).setCell ⟨b, 153, none⟩ (vI fs[j].code.length)).alloc (.cells #[vI fs[j].P, vI fs[j].R, vI fs[j].V, .slice ca fs[j].code.length ccap] 67)).drew = w4 at hf1 hon1 hcf ⊢
          have hf4w : Fr (fun k => k = b) w w4 := hfr.trans hf1
          have hfu : Hd ((inFv fs[j] (.slice ca fs[j].code.length ccap) s2).funcs = .slice (some ⟨fk, fo, none⟩) fs.length fcap) := hsf.out
          have hK0 : Hd ((inFv fs[j] (.slice ca fs[j].code.length ccap) s2).fR = fs[j].R ∧ (inFv fs[j] (.slice ca fs[j].code.length ccap) s2).len = (fs[j].code.length : Nat)) := ⟨rfl, rfl⟩
          have HFJ : Hd (FineF fs[j]) := HFIN.out _ (List.getElem_mem hlt)
          generalize inFv fs[j] (.slice ca fs[j].code.length ccap) s2 = s3 at hst hon1 hfu hK0
          clear c149 c150 c151 c152 c153 hz f0 f1 f2 f3 hl1 hon hb' hf1 hfr hvx hsf
          go_wp2_with fail
          go_loopw [70] (fun i wr => ∃ (i' : Nat) (s4 : WS), i' ≤ fs[j].code.length ∧ i = .int .i64 i' ∧ On (leaving b) wr (s4, ()) ∧ Fr (fun j => j = b) w wr ∧ Hd (s4.funcs = .slice (some ⟨fk, fo, none⟩) fs.length fcap) ∧ Hd (s4.fR = fs[j].R ∧ s4.len = (fs[j].code.length : Nat)) ∧ Hd (SimX (thenX (codeP b (headsOfP fs) fs[j].R.toNat i' (fs[j].code.drop i') s4) fun y => funcsP b (headsOfP fs) (fs.drop (j + 1)) y.1) T)) (fun i _ => match i with | .int _ q => fs[j].code.length - q.toNat | _ => 0)
          case atStart => exact ⟨0, s3, Nat.zero_le _, rfl, hon1, hf4w, hfu, hK0, hst⟩
          case round =>
            clear hon1 hf4w hfu hK0 hst hcf
            obtain ⟨i, s4, hi, rfl, hon, hfr, hfu, hK, hvx⟩ := hrel
            by_cases hil : i < fs[j].code.length
            · obtain ⟨-, ca', ccap', eca, hcode⟩ := HCL.out
              cases eca
              obtain ⟨ck, co, rfl, hck, hckb, hcode⟩ := hcode (by intro e; simp [e] at hil)
              obtain ⟨av, rv, k0, k1, k2, k3, k4, k5, k6, ha, hr, hal, hrl⟩ := hcode i hil
              clear hcode
              have ha2 : IL b wr av fs[j].code[i].args := ha.fr hfr (fun k h => h)
              have hr2 : IL b wr rv fs[j].code[i].rets := hr.fr hfr (fun k h => h)
              clear ha hr
              have gg : ∀ o, wr.cell? ⟨ck, o, none⟩ = w.cell? ⟨ck, o, none⟩ := fun o => hfr.cell hck hckb
              rw [← gg] at k0 k1 k2 k3 k4 k5 k6
              clear gg
              have HA : Hd (IL b wr av fs[j].code[i].args) := ha2
              have HR : Hd (IL b wr rv fs[j].code[i].rets) := hr2
              obtain ⟨aa, ac, rfl, -⟩ := ha2
              obtain ⟨ra, rc, rfl, -⟩ := hr2
              have hst : Hd _ := code_step hil (s2 := inIv fs[j].code[i] (.slice aa fs[j].code[i].args.length ac) (.slice ra fs[j].code[i].rets.length rc) s4) hvx.out rfl
              obtain ⟨-, -, -, -, -, -, -, -, -, -, d0, d1, d2, d3, d4, d5, d6, -⟩ := hon.1.facts
              have hz := hon.1.frozen
              have hb' := hon.1.lt
              go_wp2_with fail
              have hil7 := inIv_lies fs[j].code[i] (.slice aa fs[j].code[i].args.length ac) (.slice ra fs[j].code[i].rets.length rc) hon.1
              have hf7 : Fr (fun k => k = b) wr ((((((((wr.setCell ⟨b, 154, none⟩ (vI fs[j].code[i].op)).setCell ⟨b, 155, none⟩ (vI fs[j].code[i].r)).setCell ⟨b, 156, none⟩ (vI fs[j].code[i].s)).setCell ⟨b, 157, none⟩ (vI fs[j].code[i].t)).setCell ⟨b, 158, none⟩ (vI fs[j].code[i].n)).setCell ⟨b, 159, none⟩ (.slice aa fs[j].code[i].args.length ac)).setCell ⟨b, 160, none⟩ (.slice ra fs[j].code[i].rets.length rc)).alloc (.cells #[vI fs[j].code[i].op, vI fs[j].code[i].r, vI fs[j].code[i].s, vI fs[j].code[i].t, vI fs[j].code[i].n, .slice aa fs[j].code[i].args.length ac, .slice ra fs[j].code[i].rets.length rc] 71)) :=
                Fr.alloc (Fr.setCell (Fr.setCell (Fr.setCell (Fr.setCell (Fr.setCell (Fr.setCell (Fr.setCell (Fr.refl (fun k => k = b) wr) _ _ (Or.inl rfl)) _ _ (Or.inl rfl)) _ _ (Or.inl rfl)) _ _ (Or.inl rfl)) _ _ (Or.inl rfl)) _ _ (Or.inl rfl)) _ _ (Or.inl rfl)) _
              have hong : On (leaving b) ((((((((wr.setCell ⟨b, 154, none⟩ (vI fs[j].code[i].op)).setCell ⟨b, 155, none⟩ (vI fs[j].code[i].r)).setCell ⟨b, 156, none⟩ (vI fs[j].code[i].s)).setCell ⟨b, 157, none⟩ (vI fs[j].code[i].t)).setCell ⟨b, 158, none⟩ (vI fs[j].code[i].n)).setCell ⟨b, 159, none⟩ (.slice aa fs[j].code[i].args.length ac)).setCell ⟨b, 160, none⟩ (.slice ra fs[j].code[i].rets.length rc)).alloc (.cells #[vI fs[j].code[i].op, vI fs[j].code[i].r, vI fs[j].code[i].s, vI fs[j].code[i].t, vI fs[j].code[i].n, .slice aa fs[j].code[i].args.length ac, .slice ra fs[j].code[i].rets.length rc] 71)) (inIv fs[j].code[i] (.slice aa fs[j].code[i].args.length ac) (.slice ra fs[j].code[i].rets.length rc) s4, ()) := hon.fr hf7 (hil7.alloc _) rfl rfl
              change Calls Tryd.prog 65 _ ((((((((wr.setCell ⟨b, 154, none⟩ (vI fs[j].code[i].op)).setCell ⟨b, 155, none⟩ (vI fs[j].code[i].r)).setCell ⟨b, 156, none⟩ (vI fs[j].code[i].s)).setCell ⟨b, 157, none⟩ (vI fs[j].code[i].t)).setCell ⟨b, 158, none⟩ (vI fs[j].code[i].n)).setCell ⟨b, 159, none⟩ (.slice aa fs[j].code[i].args.length ac)).setCell ⟨b, 160, none⟩ (.slice ra fs[j].code[i].rets.length rc)).alloc (.cells #[vI fs[j].code[i].op, vI fs[j].code[i].r, vI fs[j].code[i].s, vI fs[j].code[i].t, vI fs[j].code[i].n, .slice aa fs[j].code[i].args.length ac, .slice ra fs[j].code[i].rets.length rc] 71)) _
              generalize ((((((((wr.setCell ⟨b, 154, none⟩ (vI fs[j].code[i].op)).setCell ⟨b, 155, none⟩ (vI fs[j].code[i].r)).setCell ⟨b, 156, none⟩ (vI fs[j].code[i].s)).setCell ⟨b, 157, none⟩ (vI fs[j].code[i].t)).setCell ⟨b, 158, none⟩ (vI fs[j].code[i].n)).setCell ⟨b, 159, none⟩ (.slice aa fs[j].code[i].args.length ac)).setCell ⟨b, 160, none⟩ (.slice ra fs[j].code[i].rets.length rc)).alloc (.cells #[vI fs[j].code[i].op, vI fs[j].code[i].r, vI fs[j].code[i].s, vI fs[j].code[i].t, vI fs[j].code[i].n, .slice aa fs[j].code[i].args.length ac, .slice ra fs[j].code[i].rets.length rc] 71)) = w6 at hf7 hong ⊢
              have hf6w : Fr (fun k => k = b) w w6 := hfr.trans hf7
              have hHb : HeadsAt w6 fk fo (headsOfP fs) := (headsAt_P HFC.out HFIN.out).fr hf6w hfk hfkb
              have hlh : (headsOfP fs).length = fs.length := by simp [headsOfP]
              obtain ⟨hfV, hfP, hfR, hfl0, hfl1⟩ := HFJ.out
              clear d0 d1 d2 d3 d4 d5 d6 hz k0 k1 k2 k3 k4 k5 k6 hil7
              refine (instr_L (inIv fs[j].code[i] (.slice aa fs[j].code[i].args.length ac) (.slice ra fs[j].code[i].rets.length rc) s4) w6 hong i (by omega) (by show 0 ≤ s4.len; rw [hK.out.2]; omega) (by show s4.len ≤ 4096; rw [hK.out.2]; omega)
                fs[j].R.toNat (by show s4.fR = _; rw [hK.out.1, Int.toNat_of_nonneg hfR.1]) (by omega) fs[j].code[i].args fs[j].code[i].rets (IL.fr HA.out hf7 (fun k h => h)) (IL.fr HR.out hf7 (fun k h => h)) hal hrl
                (headsOfP fs) fk fo fcap (by rw [hlh]; exact hfu.out) hHb hfkb (Nat.lt_of_lt_of_le hfk hf6w.size) (by rw [hlh]; exact HFN.out.2)).mono ?_
              rintro e w7 ⟨hf77, hres⟩
              have hf67 : Fr (fun k => k = b) w w7 := hf6w.trans (fr_L hf77)
              cases hx : instrL (b := b) (headsOfP fs) fs[j].R.toNat i fs[j].code[i].args fs[j].code[i].rets (inIv fs[j].code[i] (.slice aa fs[j].code[i].args.length ac) (.slice ra fs[j].code[i].rets.length rc) s4) with
              | error z =>
                rw [hx] at hres
                have hres : e = .panicked (viol z.1 z.2) := hres
                subst hres
                have hTz : Hd (T = .error z) := hst.out.1 z hx
                clear hx
                go_wp2_with fail
                exact ⟨rfl, overEnds_err hTz.out hf67⟩
              | ok y =>
                rw [hx] at hres
                obtain ⟨rfl, hon7⟩ := hres
                have hkp := instrL_kept hx
                have hn := hst.out.2 y hx
                have HN : Hd _ := hn
                have hfu2 : Hd (y.1.funcs = .slice (some ⟨fk, fo, none⟩) fs.length fcap) := hkp.funcs.trans hfu.out
                have hK2 : Hd (y.1.fR = fs[j].R ∧ y.1.len = (fs[j].code.length : Nat)) := ⟨hkp.fR.trans hK.out.1, hkp.len.trans hK.out.2⟩
                clear hx hst hkp hn hf7 hf77 hong hHb hfV hfP hfR hfl0 hfl1 hvx hfu hK HA HR
                go_wp2_with fail
                exact ⟨⟨i + 1, y.1, by omega, by simp, hon7, hf67, hfu2, hK2, HN⟩, by simp; omega⟩
            · have hie : i = fs[j].code.length := by omega
              have hn : Hd _ := code_end hie hvx.out
              clear hvx
              subst hie
              go_wp2_with fail
              exact ⟨⟨j + 1, s4, by omega, by simp, hon, hfr, hfu, hn⟩, by simp; omega⟩
        · have hje : j = fs.length := by omega
          have hn : Hd _ := funcs_end hje hvx.out
          clear hvx
          subst hje
          go_wp2_with fail
          go_end0
          exact overEnds_ok hn.out hfr hon

end Go.Proofs.YtingenonbkencaaDoor
