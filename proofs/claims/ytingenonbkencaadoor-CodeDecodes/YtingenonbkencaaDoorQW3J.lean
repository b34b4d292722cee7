import Derived.Test.YtingenonbkencaaDoorQK9J
import Derived.Test.YtingenonbkencaaDoorQK7J
import Derived.Test.YtingenonbkencaaDoorQS1J
import Derived.Test.YtingenonbkencaaDoorQLbJ
import Derived.Test.YtingenonbkencaaDoorQL0J
set_option linter.unusedVariables false
set_option linter.unusedSimpArgs false
namespace Go.Proofs.YtingenonbkencaaDoor
open Go.RowKit (wrap32 wrap64)
set_option maxRecDepth 100000
set_option maxHeartbeats 1000000
theorem next_writes (b wb g0 K : Nat) (l : List UInt8) (bv : Value) (p : Addr) (at' v : Int) (size : Nat) (w : World) (h0 : w.cell? ⟨b, 0, none⟩ = some (writerFn wb)) (h1 : w.cell? ⟨b, 1, none⟩ = some (vI at')) (f1 : w.frozen? ⟨b, 1, none⟩ = false)
 (hp : w.cell? p = some (vI v)) (hs : size ≤ 8) (hr : Row w wb g0 K l bv) (hl : l.length + size ≤ 1000000000000) (hbS : ¬ (b = wb ∨ K ≤ b)) (hb : b < w.heap.size) :
 Calls Tryd.prog 90 #[.pointer (some ⟨b, 0, none⟩), .pointer (some p), .int .i64 size] w fun e w' =>
  e = .returned (vI at') ∧ ∃ w1 bv', Row w1 wb g0 K (l ++ leBytes size (IntKind.u64.wrap v).toNat) bv' ∧ Fr (fun k => k = wb ∨ K ≤ k) w w1 ∧ w' = w1.setCell ⟨b, 1, none⟩ (vI (adv at' size)) := by
 unfold adv
 rw [← wrap64_wrap]
 have hw := writes_any wb g0 K l bv p at' v size w hp hs hr hl
 unfold writerFn at h0
 go_enter Tryd.func90, Tryd.ntmps90
 go_wp2_with fail
 refine hw.mono ?_
 rintro e w1 ⟨rfl, ⟨bv', hr1⟩, hf1⟩
 have d1 : w1.cell? ⟨b, 1, none⟩ = some (vI at') := (hf1.cell hb hbS).trans h1
 have z1 : w1.frozen? ⟨b, 1, none⟩ = false := (hf1.frozen hb hbS).trans f1
 clear hw
 go_wp2_with fail
 go_ret
 exact ⟨rfl, w1, bv', hr1, hf1, rfl⟩
theorem writing_at (b wb g0 K : Nat) : NextAt (writing b wb g0 K) (fun st => st.1) := by
 intro o ho x size w hroom hx hs1 hs8
 obtain ⟨s, st⟩ := x
 obtain ⟨hl, hn, hI⟩ := hx
 have hroom' : 1 ≤ st.1 := hroom
 simp only at hl hn
 obtain ⟨h1, h2, h3, h4, h5, h6, h7, h8, h9, bv, hrow⟩ := hI
 simp only at h1
 have h2' : st.2.length + 8 * st.1 ≤ 1000000000000 := h2
 have hbS : ¬ (b = wb ∨ K ≤ b) := by omega
 have h0 : w.cell? ⟨b, 0, none⟩ = some (writerFn wb) := by rw [hl.facts.1, hn]; rfl
 have hu : w.cell? ⟨b, o, none⟩ = some (vI (s.get o)) := by rw [hl.cell, cells_get s o ho]
 refine (next_writes b wb g0 K st.2 bv ⟨b, o, none⟩ s.at' (s.get o) size w h0 hl.facts.2.1 (hl.frozen 1) hu hs8 hrow (by omega) hbS hl.lt).mono ?_
 rintro e w' ⟨rfl, w1, bv', hr1, hf1, rfl⟩
 have hfb : Fr (fun k => k = b) w1 (w1.setCell ⟨b, 1, none⟩ (vI (adv s.at' size))) := Fr.setCell (Fr.refl (fun k => k = b) w1) _ _ (Or.inl rfl)
 refine ⟨(hf1.mono (fun k _ hk => Or.inr hk)).trans (hfb.mono (fun k _ hk => Or.inl hk)), ?_⟩
 have hadv : adv s.at' size = s.at' + size := adv_small _ _ (by omega) (by omega) hs8
 have hl1 : Lies w1 b s := hl.fr hf1 hbS
 have hT1 : Tab w1 := h9.fr hf1 (by omega)
 have e : nextX (writing b wb g0 K) o size (s, st) = .ok ({ s with at' := adv s.at' size }, (st.1 - 1, st.2 ++ leBytes size (IntKind.u64.wrap (s.get o)).toNat)) := by
  unfold nextX
  simp only [writing]
  rw [if_neg (by omega)]
  simp only [set_get]
 rw [e]
 refine ⟨rfl, hl1.setCell 1 _ (cells_at _ _), hn, ?_, ?_, h3, h4, h5, h6, h7, h8, hT1.fr hfb (by omega), bv', hr1.fr hfb (fun e => h7 e.symm) h8 (fun k hk e => by omega)⟩
 ·show adv s.at' size = ((st.2 ++ leBytes size (IntKind.u64.wrap (s.get o)).toNat).length : Nat)
  rw [List.length_append, leBytes_length, hadv, h1]; simp
 ·show (st.2 ++ leBytes size (IntKind.u64.wrap (s.get o)).toNat).length + 8 * (st.1 - 1) ≤ 1000000000000
  rw [List.length_append, leBytes_length]; omega
theorem writing_goes (b wb g0 K : Nat) : RoomGoes (writing b wb g0 K) (fun st => st.1) := by
 intro o size x y h
 unfold nextX at h
 simp only [writing] at h
 split at h
 ·rename_i v st hv
  split at hv
  ·cases hv
  ·cases hv
   cases h
   show x.2.1 ≤ x.2.1 - 1 + 1
   omega
 ·cases h
theorem leaving_goes (b : Nat) : RoomGoes (leaving b) (fun _ => 1000) := fun _ _ _ _ _ => by show 1000 ≤ 1000 + 1; omega
set_option maxRecDepth 100000
set_option maxHeartbeats 2000000
structure Least (w : World) (fb cb : Nat) : Prop where
 funcs : w.heap[fb]? = some (.cells #[vI 0, vI 0, vI 0, .slice (some ⟨cb, 0, none⟩) 1 1] 67)
 code : w.heap[cb]? = some (.cells #[vI 15, vI 0, vI 0, vI 0, vI 0, .slice none 0 0, .slice none 0 0] 71)
theorem Least.fr {S : Nat → Prop} {w w' : World} {fb cb : Nat} (h : Least w fb cb) (f : Fr S w w') (h1 : ¬ S fb) (h2 : ¬ S cb) : Least w' fb cb :=
 ⟨by rw [f.block fb (Array.getElem?_eq_some_iff.1 h.funcs).1 h1]; exact h.funcs, by rw [f.block cb (Array.getElem?_eq_some_iff.1 h.code).1 h2]; exact h.code⟩
theorem least_cells {wx : World} {fb cb : Nat} (hx : Least wx fb cb) : wx.cell? ⟨fb, 0, none⟩ = some (vI 0) ∧ wx.cell? ⟨fb, 1, none⟩ = some (vI 0) ∧ wx.cell? ⟨fb, 2, none⟩ = some (vI 0) ∧ wx.cell? ⟨fb, 3, none⟩ = some (.slice (some ⟨cb, 0, none⟩) 1 1) ∧ fb < wx.heap.size := by
 refine ⟨?_, ?_, ?_, ?_, (Array.getElem?_eq_some_iff.1 hx.funcs).1⟩ <;> (unfold World.cell?; simp [hx.funcs])
theorem least_code {wx : World} {fb cb : Nat} (hx : Least wx fb cb) : wx.cell? ⟨cb, 0, none⟩ = some (vI 15) ∧ wx.cell? ⟨cb, 1, none⟩ = some (vI 0) ∧ wx.cell? ⟨cb, 2, none⟩ = some (vI 0) ∧ wx.cell? ⟨cb, 3, none⟩ = some (vI 0) ∧ wx.cell? ⟨cb, 4, none⟩ = some (vI 0) ∧
 wx.cell? ⟨cb, 5, none⟩ = some (.slice none 0 0) ∧ wx.cell? ⟨cb, 6, none⟩ = some (.slice none 0 0) ∧ cb < wx.heap.size := by
 refine ⟨?_, ?_, ?_, ?_, ?_, ?_, ?_, (Array.getElem?_eq_some_iff.1 hx.code).1⟩ <;> (unfold World.cell?; simp [hx.code])
def Keeps {b : Nat} (M : Mode b) (rm : M.σ → Nat) : Prop := ∀ st p size v, 1 ≤ rm st → ∃ st', M.eff st p size v = .ok (v, st')
theorem next_keep {b : Nat} {M : Mode b} {rm : M.σ → Nat} (hK : Keeps M rm) (hR : RoomGoes M rm) (o size n : Nat) (s : WS) (st : M.σ) (h : n + 1 ≤ rm st) :
 ∃ st', M.eff st s.at' size (s.get o) = .ok (s.get o, st') ∧ nextX M o size (s, st) = .ok ({ s with at' := adv s.at' size }, st') ∧ n ≤ rm st' := by
 obtain ⟨st', e⟩ := hK st s.at' size (s.get o) (by omega)
 have e2 : nextX M o size (s, st) = .ok ({ s with at' := adv s.at' size }, st') := by
  unfold nextX; simp only [e, set_get]
 exact ⟨st', e, e2, by have := hR _ _ _ _ e2; simp only at this; omega⟩
theorem head_keep {b : Nat} {M : Mode b} {rm : M.σ → Nat} (hK : Keeps M rm) (hR : RoomGoes M rm) (n : Nat) (s : WS) (st : M.σ) (h : n + 4 ≤ rm st) (h9 : s.at' = 9) (hP : s.fP = 0) (hRr : s.fR = 0) (hV : s.fV = 0) (hl : s.len = 1) (hlo : s.locs = 1) :
 ∃ st1 st2 st3 st4, M.eff st 9 1 0 = .ok (0, st1) ∧ M.eff st1 10 1 0 = .ok (0, st2) ∧ M.eff st2 11 1 0 = .ok (0, st3) ∧ M.eff st3 12 2 1 = .ok (1, st4) ∧ headX M (s, st) = .ok ({ s with at' := 14, locs := 1 }, st4) ∧ n ≤ rm st4 := by
 obtain ⟨st1, a1, b1, c1⟩ := next_keep hK hR 149 1 (n + 3) s st (by omega)
 obtain ⟨st2, a2, b2, c2⟩ := next_keep hK hR 150 1 (n + 2) { s with at' := adv s.at' 1 } st1 (by omega)
 obtain ⟨st3, a3, b3, c3⟩ := next_keep hK hR 151 1 (n + 1) { s with at' := adv (adv s.at' 1) 1 } st2 (by omega)
 obtain ⟨st4, a4, b4, c4⟩ := next_keep hK hR 153 2 n { s with at' := adv (adv (adv s.at' 1) 1) 1 } st3 (by omega)
 have g1 : s.get 149 = 0 := hP
 have g2 : ({ s with at' := adv s.at' 1 } : WS).get 150 = 0 := hRr
 have g3 : ({ s with at' := adv (adv s.at' 1) 1 } : WS).get 151 = 0 := hV
 have g4 : ({ s with at' := adv (adv (adv s.at' 1) 1) 1 } : WS).get 153 = 1 := hl
 rw [g1] at a1; rw [g2] at a2; rw [g3] at a3; rw [g4] at a4
 simp only [h9] at a1 a2 a3 a4
 refine ⟨st1, st2, st3, st4, a1, a2, a3, a4, ?_, c4⟩
 rw [headX_then, b1]
 simp only [thenX]
 rw [b2]
 simp only
 rw [b3]
 simp only
 rw [b4]
 simp only [headOk, hP, hRr, hV, hl, locX, hlo]
 rw [h9]
 have e1 : adv (adv (adv (adv 9 1) 1) 1) 2 = 14 := by decide
 have e2 : wrap64 1 = 1 := by unfold wrap64; omega
 simp [e1, e2]
theorem instr_keep {b : Nat} {M : Mode b} {rm : M.σ → Nat} (hK : Keeps M rm) (hR : RoomGoes M rm) (n : Nat) (s : WS) (st : M.σ) (h : n + 2 ≤ rm st) (h14 : s.at' = 14) (hop : s.op = 15) :
 ∃ st1 st2, M.eff st 14 1 15 = .ok (15, st1) ∧ M.eff st1 15 1 0 = .ok (0, st2) ∧ nextX M 154 1 (s, st) = .ok ({ s with at' := 15 }, st1) ∧
  retX M 0 (frontOk M true false true 0 14 ({ s with at' := 15 }, st1)) = .ok (([], []), ({ s with at' := 16, count := 0 }, st2)) ∧ n ≤ rm st2 ∧ n + 1 ≤ rm st1 := by
 obtain ⟨st1, a1, b1, c1⟩ := next_keep hK hR 154 1 (n + 1) s st (by omega)
 obtain ⟨st2, a2, b2, c2⟩ := next_keep hK hR 161 1 n { s with at' := adv s.at' 1, count := 0 } st1 (by omega)
 have g1 : s.get 154 = 15 := hop
 have g2 : ({ s with at' := adv s.at' 1, count := 0 } : WS).get 161 = 0 := rfl
 rw [g1] at a1; rw [g2] at a2
 have e15 : adv 14 1 = 15 := by decide
 have e16 : adv 15 1 = 16 := by decide
 simp only [h14, e15] at a1 a2 b1 b2
 simp only [e16] at b2
 refine ⟨st1, st2, a1, a2, b1, ?_, c2, c1⟩
 simp only [retX, frontOk, thenX, listX, List.length_nil]
 simp only [Bool.true_or, Bool.true_eq_false, if_false, Bool.false_eq_true]
 have : ((0 : Nat) : Int) = 0 := rfl
 rw [this, b2]
 simp [varsX]
def Chain8 {b : Nat} (M : Mode b) (st0 st8 : M.σ) : Prop := ∃ st1 st2 st3 st4 st5 st6 st7, M.eff st0 6 1 0 = .ok (0, st1) ∧ M.eff st1 7 2 1 = .ok (1, st2) ∧ M.eff st2 9 1 0 = .ok (0, st3) ∧ M.eff st3 10 1 0 = .ok (0, st4) ∧ M.eff st4 11 1 0 = .ok (0, st5) ∧
 M.eff st5 12 2 1 = .ok (1, st6) ∧ M.eff st6 14 1 15 = .ok (15, st7) ∧ M.eff st7 15 1 0 = .ok (0, st8)
def OverLeast {b : Nat} (M : Mode b) (st0 : M.σ) (w : World) (e : Ending) (w' : World) : Prop :=
 e = .returned (.tuple #[]) ∧ Fr M.SB w w' ∧ ∃ s' st8, On M w' (s', st8) ∧ s'.locs = 1 ∧ Chain8 M st0 st8
theorem instr_lies {w : World} {b : Nat} {s : WS} (h : Lies w b s) :
 Lies (((((((w.setCell ⟨b, 154, none⟩ (vI 15)).setCell ⟨b, 155, none⟩ (vI 0)).setCell ⟨b, 156, none⟩ (vI 0)).setCell ⟨b, 157, none⟩ (vI 0)).setCell ⟨b, 158, none⟩ (vI 0)).setCell ⟨b, 159, none⟩ nilS).setCell ⟨b, 160, none⟩ nilS) b { s with op := 15, r := 0, s := 0, t := 0, n := 0, args := nilS, rets := nilS } := by
 have h1 := h.setCell (s' := { s with op := 15 }) 154 (vI 15) (by kernel_rfl)
 have h2 := h1.setCell (s' := { s with op := 15, r := 0 }) 155 (vI 0) (by kernel_rfl)
 have h3 := h2.setCell (s' := { s with op := 15, r := 0, s := 0 }) 156 (vI 0) (by kernel_rfl)
 have h4 := h3.setCell (s' := { s with op := 15, r := 0, s := 0, t := 0 }) 157 (vI 0) (by kernel_rfl)
 have h5 := h4.setCell (s' := { s with op := 15, r := 0, s := 0, t := 0, n := 0 }) 158 (vI 0) (by kernel_rfl)
 have h6 := h5.setCell (s' := { s with op := 15, r := 0, s := 0, t := 0, n := 0, args := nilS }) 159 nilS (by kernel_rfl)
 exact h6.setCell (s' := { s with op := 15, r := 0, s := 0, t := 0, n := 0, args := nilS, rets := nilS }) 160 nilS (by kernel_rfl)
theorem over_least {b : Nat} (M : Mode b) (rm : M.σ → Nat) (hN : NextAt M rm) (hR : RoomGoes M rm) (hK : Keeps M rm) (s : WS) (st0 : M.σ) (w : World) (h : Lies w b s) (hrm : 8 ≤ rm st0) (h6 : s.at' = 6) (hlo : s.locs = 1) (fb cb : Nat) (hl : Least w fb cb) (hfb : ¬ M.SB fb) (hcb : ¬ M.SB cb) (hnew : ∀ k, k = w.heap.size → ¬ M.SB k)
 (hOn : ∀ w1 s', Fr (fun k => k = b) w w1 → w1.heap[w.heap.size]? = some (.cells #[vI 0, .slice (some ⟨fb, 0, none⟩) 1 1] 26) → Lies w1 b s' → s'.num = s.num → s'.at' = s.at' → On M w1 (s', st0)) :
 Calls Tryd.prog 36 #[.pointer (some ⟨b, 0, none⟩), .agg #[vI 0, .slice (some ⟨fb, 0, none⟩) 1 1]] w (OverLeast M st0 w) := by
 obtain ⟨-, -, c146, c147, -, c149, c150, c151, c152, c153, -, -, -, -, -, -, -, c161⟩ := h.facts
 have hz := h.frozen
 have hb := h.lt
 go_enter Tryd.func36, Tryd.ntmps36
 go_wp2_with fail
 go_region
 have hl1 : Lies ((w.setCell ⟨b, 146, none⟩ (vI 0)).setCell ⟨b, 161, none⟩ (vI 1)) b { s with globals := 0, count := 1 } :=
  (h.setCell 146 _ (cells_set s 146 0 (by simp [places]))).setCell 161 _ (cells_set _ 161 1 (by simp [places]))
 have hf1 : Fr (fun k => k = b) w (((w.setCell ⟨b, 146, none⟩ (vI 0)).setCell ⟨b, 161, none⟩ (vI 1)).alloc (.cells #[vI 0, .slice (some ⟨fb, 0, none⟩) 1 1] 26)).drew :=
  (Fr.alloc (Fr.setCell (Fr.setCell (Fr.refl (fun k => k = b) w) _ _ (Or.inl rfl)) _ _ (Or.inl rfl)) _).drew
 have hpb : (((w.setCell ⟨b, 146, none⟩ (vI 0)).setCell ⟨b, 161, none⟩ (vI 1)).alloc (.cells #[vI 0, .slice (some ⟨fb, 0, none⟩) 1 1] 26)).drew.heap[w.heap.size]? = some (.cells #[vI 0, .slice (some ⟨fb, 0, none⟩) 1 1] 26) := by
  have hsz : ((w.setCell ⟨b, 146, none⟩ (vI 0)).setCell ⟨b, 161, none⟩ (vI 1)).heap.size = w.heap.size := by simp
  have := heap_alloc_last ((w.setCell ⟨b, 146, none⟩ (vI 0)).setCell ⟨b, 161, none⟩ (vI 1)) (.cells #[vI 0, .slice (some ⟨fb, 0, none⟩) 1 1] 26)
  rw [hsz] at this
  exact this
 have hon1 : On M (((w.setCell ⟨b, 146, none⟩ (vI 0)).setCell ⟨b, 161, none⟩ (vI 1)).alloc (.cells #[vI 0, .slice (some ⟨fb, 0, none⟩) 1 1] 26)).drew ({ s with globals := 0, count := 1 }, st0) := hOn _ _ hf1 hpb (hl1.alloc _).drew rfl rfl
 generalize (((w.setCell ⟨b, 146, none⟩ (vI 0)).setCell ⟨b, 161, none⟩ (vI 1)).alloc (.cells #[vI 0, .slice (some ⟨fb, 0, none⟩) 1 1] 26)).drew = w1 at hf1 hon1 hpb ⊢
 clear hl1 c146 c147 c149 c150 c151 c152 c153 c161 hz hOn
 obtain ⟨st1, a1, b1, r1⟩ := next_keep hK hR 146 1 7 { s with globals := 0, count := 1 } st0 (by omega)
 obtain ⟨st2, a2, b2, r2⟩ := next_keep hK hR 161 2 6 { s with globals := 0, count := 1, at' := adv s.at' 1 } st1 (by omega)
 have e7 : adv 6 1 = 7 := by decide
 have e9 : adv 7 2 = 9 := by decide
 simp only [h6, e7, e9] at a1 b1 a2 b2
 have x1 : askX M 146 1 (fun s => decide (0 ≤ s.globals ∧ s.globals ≤ 16)) 18 ({ s with globals := 0, count := 1 }, st0) = .ok ({ s with globals := 0, count := 1, at' := 7 }, st1) := by
  rw [askX_then]; simp only [h6]; rw [b1]; simp [thenX]
 have x2 : askX M 161 2 (fun s => decide (1 ≤ s.count ∧ s.count ≤ 65535)) 20 ({ s with globals := 0, count := 1, at' := 7 }, st1) = .ok ({ s with globals := 0, count := 1, at' := 9 }, st2) := by
  rw [askX_then, b2]; simp [thenX]
 go_wp2_with fail
 refine (askGlobals_at M rm hN _ w1 hon1 (by show 1 ≤ rm st0; omega)).mono ?_
 rw [x1]
 rintro e w2 ⟨hf2, rfl, hon2⟩
 clear x1 b1
 go_wp2_with fail
 refine (askFunctions_at M rm hN _ w2 hon2 (by show 1 ≤ rm st1; omega)).mono ?_
 rw [x2]
 rintro e w3 ⟨hf3, rfl, hon3⟩
 clear x2 b2
 have hps : ¬ M.SB w.heap.size := hnew _ rfl
 have hf13 : Fr M.SB w1 w3 := hf2.trans hf3
 have hp3 : w3.heap[w.heap.size]? = some (.cells #[vI 0, .slice (some ⟨fb, 0, none⟩) 1 1] 26) := by
  rw [hf13.block _ (Array.getElem?_eq_some_iff.1 hpb).1 hps]; exact hpb
 have hfw3 : Fr M.SB w w3 := (hf1.mono (fun k _ hk => Or.inl hk)).trans hf13
 have hL3 : Least w3 fb cb := hl.fr hfw3 hfb hcb
 have p1 : w3.cell? ⟨w.heap.size, 1, none⟩ = some (.slice (some ⟨fb, 0, none⟩) 1 1) := by unfold World.cell?; simp [hp3]
 have hplt : w.heap.size < w3.heap.size := (Array.getElem?_eq_some_iff.1 hp3).1
 clear hf2 hf3 hf1 hpb hon1 hon2 h
 have hfc : ∀ {wx : World}, Least wx fb cb → wx.cell? ⟨fb, 0, none⟩ = some (vI 0) ∧ wx.cell? ⟨fb, 1, none⟩ = some (vI 0) ∧ wx.cell? ⟨fb, 2, none⟩ = some (vI 0) ∧ wx.cell? ⟨fb, 3, none⟩ = some (.slice (some ⟨cb, 0, none⟩) 1 1) ∧ fb < wx.heap.size := by
  intro wx hx
  refine ⟨?_, ?_, ?_, ?_, (Array.getElem?_eq_some_iff.1 hx.funcs).1⟩ <;> (unfold World.cell?; simp [hx.funcs])
 go_wp2_with fail
 obtain ⟨sB, HSB⟩ : ∃ sB, Hd (sB = ({ s with globals := 0, count := 1, at' := 9, fP := 0, fR := 0, fV := 0, fC := .slice (some ⟨cb, 0, none⟩) 1 1, len := 1 } : WS)) := ⟨_, rfl⟩
 obtain ⟨st3, st4, st5, st6, a3, a4, a5, a6, x3, r6⟩ := head_keep hK hR 2 sB st2 (by omega) (by rw [HSB.out]) (by rw [HSB.out]) (by rw [HSB.out]) (by rw [HSB.out]) (by rw [HSB.out]) (by rw [HSB.out]; exact hlo)
 obtain ⟨sC, HSC⟩ : ∃ sC, Hd (sC = ({ sB with at' := 14, locs := 1 } : WS)) := ⟨_, rfl⟩
 have X3 : Hd (headX M (sB, st2) = .ok (sC, st6)) := by unfold Hd; rw [x3, HSC.out]
 have CH : Hd (M.eff st0 6 1 0 = .ok (0, st1) ∧ M.eff st1 7 2 1 = .ok (1, st2) ∧ M.eff st2 9 1 0 = .ok (0, st3) ∧ M.eff st3 10 1 0 = .ok (0, st4) ∧ M.eff st4 11 1 0 = .ok (0, st5) ∧ M.eff st5 12 2 1 = .ok (1, st6)) := ⟨a1, a2, a3, a4, a5, a6⟩
 clear x3 a1 a2 a3 a4 a5 a6
 have R2 : Hd (6 ≤ rm st2) := r2
 have R6 : Hd (2 ≤ rm st6) := r6
 go_loopw [28] (fun i wr => Fr M.SB w wr ∧ (∃ u, wr.cell? ⟨w.heap.size, 1, none⟩ = u ∧ u = some (.slice (some ⟨fb, 0, none⟩) 1 1)) ∧ ((i = .int .i64 0 ∧ On M wr ({ s with globals := 0, count := 1, at' := 9 }, st2)) ∨
  (i = .int .i64 1 ∧ On M wr (sC, st6)))) (fun i _ => match i with | .int _ q => 1 - q.toNat | _ => 0)
 case atStart => exact ⟨hfw3, ⟨_, rfl, p1⟩, Or.inl ⟨rfl, hon3⟩⟩
 case round =>
  obtain ⟨hfr, ⟨u, pu, hu⟩, ⟨rfl, hon⟩ | ⟨rfl, hon⟩⟩ := hrel
  ·subst hu
   have hLr : Least wr fb cb := hl.fr hfr hfb hcb
   obtain ⟨f0, f1, f2, f3, hflt⟩ := hfc hLr
   obtain ⟨-, -, -, -, -, c149, c150, c151, c152, c153, -⟩ := hon.1.facts
   have hz := hon.1.frozen
   have hb := hon.1.lt
   have hfbb : ¬ fb = b := fun e => hfb (Or.inl e)
   have hpw : w.heap.size < wr.heap.size := cell_lt pu
   clear hfc
   go_wp2_with fail
   go_region
   have hl1 := (func_lies 0 0 0 1 (.slice (some ⟨cb, 0, none⟩) 1 1) hon.1)
   have hf1 : Fr (fun k => k = b) wr ((((((wr.setCell ⟨b, 149, none⟩ (vI 0)).setCell ⟨b, 150, none⟩ (vI 0)).setCell ⟨b, 151, none⟩ (vI 0)).setCell ⟨b, 152, none⟩ (.slice (some ⟨cb, 0, none⟩) 1 1)).setCell ⟨b, 153, none⟩ (vI 1)).alloc (.cells #[vI 0, vI 0, vI 0, .slice (some ⟨cb, 0, none⟩) 1 1] 67)).drew :=
    (Fr.alloc (Fr.setCell (Fr.setCell (Fr.setCell (Fr.setCell (Fr.setCell (Fr.refl (fun k => k = b) wr) _ _ (Or.inl rfl)) _ _ (Or.inl rfl)) _ _ (Or.inl rfl)) _ _ (Or.inl rfl)) _ _ (Or.inl rfl)) _).drew
   have hon1 : On M ((((((wr.setCell ⟨b, 149, none⟩ (vI 0)).setCell ⟨b, 150, none⟩ (vI 0)).setCell ⟨b, 151, none⟩ (vI 0)).setCell ⟨b, 152, none⟩ (.slice (some ⟨cb, 0, none⟩) 1 1)).setCell ⟨b, 153, none⟩ (vI 1)).alloc (.cells #[vI 0, vI 0, vI 0, .slice (some ⟨cb, 0, none⟩) 1 1] 67)).drew (sB, st2) := by
    rw [HSB.out]; exact hon.fr hf1 (hl1.alloc _).drew rfl rfl
   generalize ((((((wr.setCell ⟨b, 149, none⟩ (vI 0)).setCell ⟨b, 150, none⟩ (vI 0)).setCell ⟨b, 151, none⟩ (vI 0)).setCell ⟨b, 152, none⟩ (.slice (some ⟨cb, 0, none⟩) 1 1)).setCell ⟨b, 153, none⟩ (vI 1)).alloc (.cells #[vI 0, vI 0, vI 0, .slice (some ⟨cb, 0, none⟩) 1 1] 67)).drew = w4 at hf1 hon1 ⊢
   clear c149 c150 c151 c152 c153 hz f0 f1 f2 f3 hl1
   go_wp2_with fail
   refine (askHead_at M rm hN (sB, st2) w4 hon1 hR (by show 4 ≤ rm st2; have := R2.out; omega)).mono ?_
   rintro e w5 ⟨hf5, hres⟩
   rw [X3.out] at hres
   obtain ⟨rfl, hon5⟩ := hres
   have hf45 : Fr M.SB wr w5 := (hf1.mono (fun k _ hk => Or.inl hk)).trans hf5
   have pu5 : w5.cell? ⟨w.heap.size, 1, none⟩ = some (.slice (some ⟨fb, 0, none⟩) 1 1) := (hf45.cell hpw hps).trans pu
   clear hf1 hf5 pu
   go_wp2_with fail
   exact ⟨⟨hfr.trans hf45, ⟨_, rfl, pu5⟩, Or.inr ⟨by simp, hon5⟩⟩, by simp⟩
  ·subst hu
   have hLr : Least wr fb cb := hl.fr hfr hfb hcb
   have hpw : w.heap.size < wr.heap.size := cell_lt pu
   have c147 : wr.cell? ⟨b, 147, none⟩ = some sC.funcs := hon.1.facts.2.2.2.1
   have hz := hon.1.frozen
   have hb := hon.1.lt
   have hpb' : ¬ w.heap.size = b := fun e => hps (Or.inl e)
   clear hfc
   go_wp2_with fail
   have hff : Fr (fun k => k = b) wr (wr.setCell ⟨b, 147, none⟩ (.slice (some ⟨fb, 0, none⟩) 1 1)) := Fr.setCell (Fr.refl (fun k => k = b) wr) _ _ (Or.inl rfl)
   have honf : On M (wr.setCell ⟨b, 147, none⟩ (.slice (some ⟨fb, 0, none⟩) 1 1)) ({ sC with funcs := .slice (some ⟨fb, 0, none⟩) 1 1 }, st6) := hon.fr hff (hon.1.setCell 147 _ (cells_funcs _ _)) rfl rfl
   have hfw : Fr M.SB w (wr.setCell ⟨b, 147, none⟩ (.slice (some ⟨fb, 0, none⟩) 1 1)) := hfr.trans (hff.mono (fun k _ hk => Or.inl hk))
   generalize (wr.setCell ⟨b, 147, none⟩ (.slice (some ⟨fb, 0, none⟩) 1 1)) = wf at hff honf hfw ⊢
   obtain ⟨sE, HSE⟩ : ∃ sE, Hd (sE = ({ sC with funcs := .slice (some ⟨fb, 0, none⟩) 1 1, fP := 0, fR := 0, fV := 0, fC := .slice (some ⟨cb, 0, none⟩) 1 1, len := 1 } : WS)) := ⟨_, rfl⟩
   obtain ⟨sG, HSG⟩ : ∃ sG, Hd (sG = ({ sE with op := 15, r := 0, s := 0, t := 0, n := 0, args := nilS, rets := nilS } : WS)) := ⟨_, rfl⟩
   have g14 : sG.at' = 14 := by rw [HSG.out, HSE.out, HSC.out]
   have gop : sG.op = 15 := by rw [HSG.out]
   obtain ⟨st7, st8, a7, a8, x7, x8, -, r7⟩ := instr_keep hK hR 0 sG st6 (by have := R6.out; omega) g14 gop
   have X7 : Hd (nextX M 154 1 (sG, st6) = .ok ({ sG with at' := 15 }, st7)) := x7
   have X8 : Hd (retX M 0 (frontOk M true false true 0 14 ({ sG with at' := 15 }, st7)) = .ok (([], []), ({ sG with at' := 16, count := 0 }, st8))) := x8
   have hlo8 : Hd (sG.locs = 1) := by unfold Hd; rw [HSG.out, HSE.out, HSC.out]
   have CH8 : Hd (Chain8 M st0 st8) := ⟨st1, st2, st3, st4, st5, st6, st7, CH.out.1, CH.out.2.1, CH.out.2.2.1, CH.out.2.2.2.1, CH.out.2.2.2.2.1, CH.out.2.2.2.2.2, a7, a8⟩
   have G14 : Hd (sG.at' = 14) := g14
   have GOP : Hd (sG.op = 15) := gop
   have hRG : Hd (sG.fR = ((0 : Nat) : Int) ∧ sG.len = 1 ∧ sG.args = nilS ∧ sG.rets = nilS ∧ sG.r = 0 ∧ sG.s = 0 ∧ sG.t = 0 ∧ sG.n = 0) := by
    unfold Hd; rw [HSG.out, HSE.out]; exact ⟨rfl, rfl, rfl, rfl, rfl, rfl, rfl, rfl⟩
   clear a7 a8 x7 x8 g14 gop c147 hz hb pu hon hff
   go_loopw [53] (fun i wr => Fr M.SB w wr ∧ ((i = .int .i64 0 ∧ On M wr ({ sC with funcs := .slice (some ⟨fb, 0, none⟩) 1 1 }, st6)) ∨ (i = .int .i64 1 ∧ ∃ s8, On M wr (s8, st8) ∧ s8.locs = 1))) (fun i _ => match i with | .int _ q => 1 - q.toNat | _ => 0)
   case atStart => exact ⟨hfw, Or.inl ⟨rfl, honf⟩⟩
   case round =>
    obtain ⟨hfr2, ⟨rfl, hon⟩ | ⟨rfl, s8, hon, hs8⟩⟩ := hrel
    ·have hLr : Least wr fb cb := hl.fr hfr2 hfb hcb
     obtain ⟨f0, f1, f2, f3, hflt⟩ := least_cells hLr
     obtain ⟨-, -, -, -, -, c149, c150, c151, c152, c153, -⟩ := hon.1.facts
     have hz := hon.1.frozen
     have hb := hon.1.lt
     have hfbb : ¬ fb = b := fun e => hfb (Or.inl e)
     go_wp2_with fail
     go_region
     have hl1 := (func_lies 0 0 0 1 (.slice (some ⟨cb, 0, none⟩) 1 1) hon.1)
     have hf1 : Fr (fun k => k = b) wr ((((((wr.setCell ⟨b, 149, none⟩ (vI 0)).setCell ⟨b, 150, none⟩ (vI 0)).setCell ⟨b, 151, none⟩ (vI 0)).setCell ⟨b, 152, none⟩ (.slice (some ⟨cb, 0, none⟩) 1 1)).setCell ⟨b, 153, none⟩ (vI 1)).alloc (.cells #[vI 0, vI 0, vI 0, .slice (some ⟨cb, 0, none⟩) 1 1] 67)).drew :=
      (Fr.alloc (Fr.setCell (Fr.setCell (Fr.setCell (Fr.setCell (Fr.setCell (Fr.refl (fun k => k = b) wr) _ _ (Or.inl rfl)) _ _ (Or.inl rfl)) _ _ (Or.inl rfl)) _ _ (Or.inl rfl)) _ _ (Or.inl rfl)) _).drew
     have hon1 : On M ((((((wr.setCell ⟨b, 149, none⟩ (vI 0)).setCell ⟨b, 150, none⟩ (vI 0)).setCell ⟨b, 151, none⟩ (vI 0)).setCell ⟨b, 152, none⟩ (.slice (some ⟨cb, 0, none⟩) 1 1)).setCell ⟨b, 153, none⟩ (vI 1)).alloc (.cells #[vI 0, vI 0, vI 0, .slice (some ⟨cb, 0, none⟩) 1 1] 67)).drew (sE, st6) := by
      rw [HSE.out]; exact hon.fr hf1 (hl1.alloc _).drew rfl rfl
     have hcf : ((((((wr.setCell ⟨b, 149, none⟩ (vI 0)).setCell ⟨b, 150, none⟩ (vI 0)).setCell ⟨b, 151, none⟩ (vI 0)).setCell ⟨b, 152, none⟩ (.slice (some ⟨cb, 0, none⟩) 1 1)).setCell ⟨b, 153, none⟩ (vI 1)).alloc (.cells #[vI 0, vI 0, vI 0, .slice (some ⟨cb, 0, none⟩) 1 1] 67)).drew.cell? ⟨wr.heap.size, 3, none⟩ = some (.slice (some ⟨cb, 0, none⟩) 1 1) := by
      rw [World.cell?_drew, World.cell?_alloc_at _ _ _ _ (by simp)]; rfl
     generalize ((((((wr.setCell ⟨b, 149, none⟩ (vI 0)).setCell ⟨b, 150, none⟩ (vI 0)).setCell ⟨b, 151, none⟩ (vI 0)).setCell ⟨b, 152, none⟩ (.slice (some ⟨cb, 0, none⟩) 1 1)).setCell ⟨b, 153, none⟩ (vI 1)).alloc (.cells #[vI 0, vI 0, vI 0, .slice (some ⟨cb, 0, none⟩) 1 1] 67)).drew = w4 at hf1 hon1 hcf ⊢
     have hf4w : Fr M.SB w w4 := hfr2.trans (hf1.mono (fun k _ hk => Or.inl hk))
     clear c149 c150 c151 c152 c153 hz f0 f1 f2 f3 hl1 hon hb
     go_wp2_with fail
     go_loopw [70] (fun i wr => Fr M.SB w wr ∧ ((i = .int .i64 0 ∧ On M wr (sE, st6)) ∨ (i = .int .i64 1 ∧ ∃ s8, On M wr (s8, st8) ∧ s8.locs = 1))) (fun i _ => match i with | .int _ q => 1 - q.toNat | _ => 0)
     case atStart => exact ⟨hf4w, Or.inl ⟨rfl, hon1⟩⟩
     case round =>
      obtain ⟨hfr3, ⟨rfl, hon⟩ | ⟨rfl, s8, hon, hs8⟩⟩ := hrel
      ·have hLr : Least wr fb cb := hl.fr hfr3 hfb hcb
       obtain ⟨k0, k1, k2, k3, k4, k5, k6, hclt⟩ := least_code hLr
       obtain ⟨-, -, -, -, -, -, -, -, -, -, d0, d1, d2, d3, d4, d5, d6, -⟩ := hon.1.facts
       have hz := hon.1.frozen
       have hb := hon.1.lt
       have hcbb : ¬ cb = b := fun e => hcb (Or.inl e)
       go_wp2_with fail
       have hil := instr_lies hon.1
       have hf7 : Fr (fun k => k = b) wr ((((((((wr.setCell ⟨b, 154, none⟩ (vI 15)).setCell ⟨b, 155, none⟩ (vI 0)).setCell ⟨b, 156, none⟩ (vI 0)).setCell ⟨b, 157, none⟩ (vI 0)).setCell ⟨b, 158, none⟩ (vI 0)).setCell ⟨b, 159, none⟩ nilS).setCell ⟨b, 160, none⟩ nilS).alloc (.cells #[vI 15, vI 0, vI 0, vI 0, vI 0, .slice none 0 0, .slice none 0 0] 71)) :=
        Fr.alloc (Fr.setCell (Fr.setCell (Fr.setCell (Fr.setCell (Fr.setCell (Fr.setCell (Fr.setCell (Fr.refl (fun k => k = b) wr) _ _ (Or.inl rfl)) _ _ (Or.inl rfl)) _ _ (Or.inl rfl)) _ _ (Or.inl rfl)) _ _ (Or.inl rfl)) _ _ (Or.inl rfl)) _ _ (Or.inl rfl)) _
       have hong : On M ((((((((wr.setCell ⟨b, 154, none⟩ (vI 15)).setCell ⟨b, 155, none⟩ (vI 0)).setCell ⟨b, 156, none⟩ (vI 0)).setCell ⟨b, 157, none⟩ (vI 0)).setCell ⟨b, 158, none⟩ (vI 0)).setCell ⟨b, 159, none⟩ nilS).setCell ⟨b, 160, none⟩ nilS).alloc (.cells #[vI 15, vI 0, vI 0, vI 0, vI 0, .slice none 0 0, .slice none 0 0] 71)) (sG, st6) := by
        rw [HSG.out]; exact hon.fr hf7 (hil.alloc _) rfl rfl
       change Calls Tryd.prog 65 _ ((((((((wr.setCell ⟨b, 154, none⟩ (vI 15)).setCell ⟨b, 155, none⟩ (vI 0)).setCell ⟨b, 156, none⟩ (vI 0)).setCell ⟨b, 157, none⟩ (vI 0)).setCell ⟨b, 158, none⟩ (vI 0)).setCell ⟨b, 159, none⟩ nilS).setCell ⟨b, 160, none⟩ nilS).alloc (.cells #[vI 15, vI 0, vI 0, vI 0, vI 0, .slice none 0 0, .slice none 0 0] 71)) _
       generalize ((((((((wr.setCell ⟨b, 154, none⟩ (vI 15)).setCell ⟨b, 155, none⟩ (vI 0)).setCell ⟨b, 156, none⟩ (vI 0)).setCell ⟨b, 157, none⟩ (vI 0)).setCell ⟨b, 158, none⟩ (vI 0)).setCell ⟨b, 159, none⟩ nilS).setCell ⟨b, 160, none⟩ nilS).alloc (.cells #[vI 15, vI 0, vI 0, vI 0, vI 0, .slice none 0 0, .slice none 0 0] 71)) = w6 at hf7 hong ⊢
       obtain ⟨q1, q2, q3, q4, q5, q6, q7, q8⟩ := hRG.out
       clear k0 k1 k2 k3 k4 k5 k6 d0 d1 d2 d3 d4 d5 d6 hz hil
       have hcall := instr_15at M rm hN hR (sG, st6) ({ sG with at' := 15 }, st7) w6 hong (by show 2 ≤ rm st6; exact R6.out) 0 (by omega) X7.out GOP.out (by show 0 ≤ sG.len; omega) (by show sG.len ≤ 4096; omega) true
        (fun w1 hl' => namesAll_15 ({ sG with at' := 15 } : WS) w1 hl' none none 0 0 0 0 q3 q4 q5 q6 q7 q8 (by show lenOf sG.rets = 0; rw [q4]; rfl)) q3 q4 0 q1 rfl
       rw [show ((sG, st6) : WS × M.σ).1.at' = 14 from G14.out, X8.out] at hcall
       refine hcall.mono ?_
       rintro e w7 ⟨hf77, rfl, av, rv, -, -, hon7⟩
       have hf67 : Fr M.SB wr w7 := (hf7.mono (fun k _ hk => Or.inl hk)).trans hf77
       have hon8 : ∃ s8, On M w7 (s8, st8) ∧ s8.locs = 1 := ⟨_, hon7, hlo8.out⟩
       clear hcall hf7 hf77 hon7 q1 q2 q3 q4 q5 q6 q7 q8
       go_wp2_with fail
       exact ⟨⟨hfr3.trans hf67, Or.inr ⟨by simp, hon8⟩⟩, by simp⟩
      ·go_wp2_with fail
       exact ⟨⟨hfr3, Or.inr ⟨by simp, s8, hon, hs8⟩⟩, by simp⟩
    ·go_wp2_with fail
     go_end0
     exact ⟨rfl, hfr2, s8, st8, hon, hs8, CH8.out⟩
def CL (b : Nat) (w : World) (v : Value) (c : List PI) : Prop :=
 c.length ≤ 1000000000000000 ∧ ∃ a cp, v = .slice a c.length cp ∧ (c ≠ [] → ∃ k o, a = some ⟨k, o, none⟩ ∧ k < w.heap.size ∧ k ≠ b ∧ ∀ j (h : j < c.length), ∃ av rv,
  w.cell? ⟨k, o + j * 7, none⟩ = some (vI c[j].op) ∧ w.cell? ⟨k, o + j * 7 + 1, none⟩ = some (vI c[j].r) ∧ w.cell? ⟨k, o + j * 7 + 2, none⟩ = some (vI c[j].s) ∧ w.cell? ⟨k, o + j * 7 + 3, none⟩ = some (vI c[j].t) ∧ w.cell? ⟨k, o + j * 7 + 4, none⟩ = some (vI c[j].n) ∧
  w.cell? ⟨k, o + j * 7 + 5, none⟩ = some av ∧ w.cell? ⟨k, o + j * 7 + 6, none⟩ = some rv ∧ IL b w av c[j].args ∧ IL b w rv c[j].rets ∧ c[j].args.length ≤ 1000000000000000 ∧ c[j].rets.length ≤ 1000000000000000)
def FL (b : Nat) (w : World) (v : Value) (fs : List PF) : Prop :=
 fs.length ≤ 1000000000000000 ∧ ∃ a cp, v = .slice a fs.length cp ∧ (fs ≠ [] → ∃ k o, a = some ⟨k, o, none⟩ ∧ k < w.heap.size ∧ k ≠ b ∧ ∀ j (h : j < fs.length), ∃ cv,
  w.cell? ⟨k, o + j * 4, none⟩ = some (vI fs[j].P) ∧ w.cell? ⟨k, o + j * 4 + 1, none⟩ = some (vI fs[j].R) ∧ w.cell? ⟨k, o + j * 4 + 2, none⟩ = some (vI fs[j].V) ∧ w.cell? ⟨k, o + j * 4 + 3, none⟩ = some cv ∧ CL b w cv fs[j].code)
theorem CL.fr {S : Nat → Prop} {b : Nat} {w w' : World} {v : Value} {c : List PI} (h : CL b w v c) (f : Fr S w w') (hS : ∀ k, S k → k = b) : CL b w' v c := by
 obtain ⟨h0, a, cp, e, h⟩ := h
 refine ⟨h0, a, cp, e, fun hne => ?_⟩
 obtain ⟨k, o, e, hk, hb, hc⟩ := h hne
 refine ⟨k, o, e, Nat.lt_of_lt_of_le hk f.size, hb, fun j hj => ?_⟩
 obtain ⟨av, rv, h1, h2, h3, h4, h5, h6, h7, h8, h9, h10⟩ := hc j hj
 have g : ∀ o, w'.cell? ⟨k, o, none⟩ = w.cell? ⟨k, o, none⟩ := fun o => f.cell hk (fun h => hb (hS k h))
 exact ⟨av, rv, (g _).trans h1, (g _).trans h2, (g _).trans h3, (g _).trans h4, (g _).trans h5, (g _).trans h6, (g _).trans h7, h8.fr f hS, h9.fr f hS, h10⟩
theorem FL.fr {S : Nat → Prop} {b : Nat} {w w' : World} {v : Value} {fs : List PF} (h : FL b w v fs) (f : Fr S w w') (hS : ∀ k, S k → k = b) : FL b w' v fs := by
 obtain ⟨h0, a, cp, e, h⟩ := h
 refine ⟨h0, a, cp, e, fun hne => ?_⟩
 obtain ⟨k, o, e, hk, hb, hc⟩ := h hne
 refine ⟨k, o, e, Nat.lt_of_lt_of_le hk f.size, hb, fun j hj => ?_⟩
 obtain ⟨cv, h1, h2, h3, h4, h5⟩ := hc j hj
 have g : ∀ o, w'.cell? ⟨k, o, none⟩ = w.cell? ⟨k, o, none⟩ := fun o => f.cell hk (fun h => hb (hS k h))
 exact ⟨cv, (g _).trans h1, (g _).trans h2, (g _).trans h3, (g _).trans h4, h5.fr f hS⟩
def SimX (r r' : X (WS × Unit)) : Prop := match r, r' with
 | .ok y, .ok y' => y.1.bare = y'.1.bare
 | .error z, .error z' => z = z'
 | _, _ => False
theorem SimX.then {c c' : X (WS × Unit)} {p p' : WS × Unit → X (WS × Unit)} (h : SimX c c') (hp : ∀ y y', y.1.bare = y'.1.bare → SimX (p y) (p' y')) : SimX (thenX c p) (thenX c' p') := by
 cases c with
 | ok y => cases c' with
   | ok y' => exact hp y y' h
   | error z => exact h.elim
 | error z => cases c' with
   | ok y' => exact h.elim
   | error z' => exact h
theorem SimX.cast {r r' q q' : X (WS × Unit)} (h1 : r = q) (h2 : r' = q') (h : SimX q q') : SimX r r' := by
 subst h1; subst h2; exact h
theorem SimX.ite {p : Prop} [Decidable p] {a a' c c' : X (WS × Unit)} (h1 : p → SimX a a') (h2 : ¬ p → SimX c c') : SimX (if p then a else c) (if p then a' else c') := by
 by_cases h : p
 ·exact SimX.cast (if_pos h) (if_pos h) (h1 h)
 ·exact SimX.cast (if_neg h) (if_neg h) (h2 h)
end Go.Proofs.YtingenonbkencaaDoor
