import Derived.Test.YtingenonbkencaaDoorQW1
import Derived.Test.YtingenonbkencaaDoorQW2
import Derived.Test.YtingenonbkencaaDoorQS1
namespace Go.Proofs.YtingenonbkencaaDoor
open Go.RowKit (wrap32 wrap64)
set_option linter.unusedVariables false
set_option linter.unusedSimpArgs false
set_option maxRecDepth 100000
set_option maxHeartbeats 1000000
theorem next_writes (b wb g0 K : Nat) (l : List UInt8) (bv : Value) (p : Addr) (at' v : Int) (size : Nat) (w : World) (h0 : w.cell? ⟨b, 0, none⟩ = some (writerFn wb)) (h1 : w.cell? ⟨b, 1, none⟩ = some (vI at')) (f1 : w.frozen? ⟨b, 1, none⟩ = false)
    (hp : w.cell? p = some (vI v)) (hs : size ≤ 8) (hr : Row w wb g0 K l bv) (hl : l.length + size ≤ 1000000000000) (hbS : ¬ (b = wb ∨ K ≤ b)) (hb : b < w.heap.size) :
    Calls Tryd.prog 90 #[.pointer (some ⟨b, 0, none⟩), .pointer (some p), .int .i64 size] w fun e w' =>
      e = .returned (vI at') ∧ ∃ w1 bv', Row w1 wb g0 K (l ++ leBytes size (IntKind.u64.wrap v).toNat) bv' ∧ Fr (fun k => k = wb ∨ K ≤ k) w w1 ∧ w' = w1.setCell ⟨b, 1, none⟩ (vI (adv at' size)) := by
  unfold adv
  rw [← wrap64_wrap]
  have hw := writes_any wb g0 K l bv p at' v size w hp hs hr hl
  unfold writerFn at h0
  go_enter Tryd.func90, Tryd.ntmps90
  go_wp2_with fail
  refine hw.mono ?_
  rintro e w1 ⟨rfl, ⟨bv', hr1⟩, hf1⟩
  have d1 : w1.cell? ⟨b, 1, none⟩ = some (vI at') := (hf1.cell hb hbS).trans h1
  have z1 : w1.frozen? ⟨b, 1, none⟩ = false := (hf1.frozen hb hbS).trans f1
  clear hw
  go_wp2_with fail
  go_ret
  exact ⟨rfl, w1, bv', hr1, hf1, rfl⟩
theorem writing_at (b wb g0 K : Nat) : NextAt (writing b wb g0 K) (fun st => st.1) := by
  intro o ho x size w hroom hx hs1 hs8
  obtain ⟨s, st⟩ := x
  obtain ⟨hl, hn, hI⟩ := hx
  have hroom' : 1 ≤ st.1 := hroom
  simp only at hl hn
  obtain ⟨h1, h2, h3, h4, h5, h6, h7, h8, h9, bv, hrow⟩ := hI
  simp only at h1
  have h2' : st.2.length + 8 * st.1 ≤ 1000000000 := h2
  have hbS : ¬ (b = wb ∨ K ≤ b) := by omega
  have h0 : w.cell? ⟨b, 0, none⟩ = some (writerFn wb) := by rw [hl.facts.1, hn]; rfl
  have hu : w.cell? ⟨b, o, none⟩ = some (vI (s.get o)) := by rw [hl.cell, cells_get s o ho]
  refine (next_writes b wb g0 K st.2 bv ⟨b, o, none⟩ s.at' (s.get o) size w h0 hl.facts.2.1 (hl.frozen 1) hu hs8 hrow (by omega) hbS hl.lt).mono ?_
  rintro e w' ⟨rfl, w1, bv', hr1, hf1, rfl⟩
  have hfb : Fr (fun k => k = b) w1 (w1.setCell ⟨b, 1, none⟩ (vI (adv s.at' size))) := Fr.setCell (Fr.refl (fun k => k = b) w1) _ _ (Or.inl rfl)
  refine ⟨(hf1.mono (fun k _ hk => Or.inr hk)).trans (hfb.mono (fun k _ hk => Or.inl hk)), ?_⟩
  have hadv : adv s.at' size = s.at' + size := adv_small _ _ (by omega) (by omega) hs8
  have hl1 : Lies w1 b s := hl.fr hf1 hbS
  have hT1 : Tab w1 := h9.fr hf1 (by omega)
  have e : nextX (writing b wb g0 K) o size (s, st) = .ok ({ s with at' := adv s.at' size }, (st.1 - 1, st.2 ++ leBytes size (IntKind.u64.wrap (s.get o)).toNat)) := by
    unfold nextX
    simp only [writing]
    rw [if_neg (by omega)]
    simp only [set_get]
  rw [e]
  refine ⟨rfl, hl1.setCell 1 _ (cells_at _ _), hn, ?_, ?_, h3, h4, h5, h6, h7, h8, hT1.fr hfb (by omega), bv', hr1.fr hfb (fun e => h7 e.symm) h8 (fun k hk e => by omega)⟩
  · show adv s.at' size = ((st.2 ++ leBytes size (IntKind.u64.wrap (s.get o)).toNat).length : Nat)
    rw [List.length_append, leBytes_length, hadv, h1]; simp
  · show (st.2 ++ leBytes size (IntKind.u64.wrap (s.get o)).toNat).length + 8 * (st.1 - 1) ≤ 1000000000
    rw [List.length_append, leBytes_length]; omega
theorem writing_goes (b wb g0 K : Nat) : RoomGoes (writing b wb g0 K) (fun st => st.1) := by
  intro o size x y h
  unfold nextX at h
  simp only [writing] at h
  split at h
  · rename_i v st hv
    split at hv
    · cases hv
    · cases hv
      cases h
      show x.2.1 ≤ x.2.1 - 1 + 1
      omega
  · cases h
theorem leaving_goes (b : Nat) : RoomGoes (leaving b) (fun _ => 1000) := fun _ _ _ _ _ => by show 1000 ≤ 1000 + 1; omega
end Go.Proofs.YtingenonbkencaaDoor
