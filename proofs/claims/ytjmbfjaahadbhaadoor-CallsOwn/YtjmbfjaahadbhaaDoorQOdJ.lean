import Derived.Test.YtjmbfjaahadbhaaDoorQOcJ
import Derived.Test.YtjmbfjaahadbhaaDoorQOaJ
import Derived.Test.YtjmbfjaahadbhaaDoorQRaJ
import Derived.StillTail
import Derived.Deep.RegionHeld
set_option linter.unusedVariables false
set_option linter.unusedSimpArgs false
namespace Go.Proofs.YtjmbfjaahadbhaaDoor
open Go.RowKit (wrap32 wrap64)

/-- What the document's ready leaves. -/
def RyE (cl : Nat → List Nat) (ms : List Nat) (wh : Nat → Int) (w : World) (e : Ending) (w' : World) : Prop :=
  ∃ b, e = .returned (.bool b) ∧ (b = true ↔ ∀ x ∈ ms, ∀ z ∈ cl x, z ∈ ms ∨ 0 ≤ wh z) ∧ Fr (fun _ => False) w w'
set_option maxRecDepth 100000 in
set_option maxHeartbeats 8000000 in
theorem ready_any {N ck co cc mg mo mc wg wc : Nat} {cl : Nat → List Nat} {ms : List Nat} {wh : Nat → Int} (w : World) (h : LB w.heap.size w (.slice (some ⟨ck, co, none⟩) N cc) (zLs N cl)) (hcl : ∀ x, x < N → ∀ z ∈ cl x, z < N) (hll : ∀ x, x < N → (cl x).length ≤ 1000000000) (hN : N ≤ 65535)
    (hm : ∀ W, Fr (fun _ => False) w W → ∀ j (hj : j < ms.length), W.cell? ⟨mg, mo + j, none⟩ = some (vI (ms[j] : Nat))) (hmN : ∀ x ∈ ms, x < N) (hml : ms.length ≤ 65535) (hw : ∀ W, Fr (fun _ => False) w W → ∀ x, x < N → W.cell? ⟨wg, x, none⟩ = some (vI (wh x))) :
    Calls Tryd.prog 43 #[.slice (some ⟨ck, co, none⟩) N cc, .slice (some ⟨mg, mo, none⟩) ms.length mc, .slice (some ⟨wg, 0, none⟩) N wc] w (RyE cl ms wh w) := by
  have HLB : Hd (LB w.heap.size w (.slice (some ⟨ck, co, none⟩) N cc) (zLs N cl)) := h
  have HCL : Hd ((∀ x, x < N → ∀ z ∈ cl x, z < N) ∧ ∀ x, x < N → (cl x).length ≤ 1000000000) := ⟨hcl, hll⟩
  have HM : Hd (∀ W, Fr (fun _ => False) w W → ∀ j (hj : j < ms.length), W.cell? ⟨mg, mo + j, none⟩ = some (vI (ms[j] : Nat))) := hm
  have HMN : Hd (∀ x ∈ ms, x < N) := hmN
  have HW : Hd (∀ W, Fr (fun _ => False) w W → ∀ x, x < N → W.cell? ⟨wg, x, none⟩ = some (vI (wh x))) := hw
  have HF0 : Hd (Fr (fun _ => False) w w) := Fr.refl _ _
  clear h hcl hll hm hmN hw
  go_enter Tryd.func43, Tryd.ntmps43
  go_wp2_with fail
  go_loopw [7] (fun v wx => ∃ i : Nat, v = .int .i64 i ∧ i ≤ ms.length ∧ Hd (∀ x ∈ ms.take i, ∀ z ∈ cl x, z ∈ ms ∨ 0 ≤ wh z) ∧ Hd (Fr (fun _ => False) w wx)) (fun v _ => match v with | .int _ q => ms.length - q.toNat | _ => 0)
  case atStart => exact ⟨0, by simp, Nat.zero_le _, by unfold Hd; simp, HF0.out⟩
  case round =>
    clear HF0
    obtain ⟨i, rfl, hi, HA, HF⟩ := hrel
    by_cases hlt : i < ms.length
    · have d1 : decide ((i : Int) < (ms.length : Int)) = true := by simp; omega
      have i0 : (0 : Int) ≤ i := by omega
      have i1 : (i : Int) < ms.length := by omega
      have p0 := HM.out wr HF.out i hlt
      have hyN := HMN.out _ (List.getElem_mem hlt)
      have HTK : Hd (ms.take (i + 1) = ms.take i ++ [ms[i]] ∧ ms[i] ∈ ms) := ⟨by rw [List.take_add_one, List.getElem?_eq_getElem hlt]; rfl, List.getElem_mem hlt⟩
      generalize ms[i] = y at *
      obtain ⟨ua, uc, p2, hck, hu⟩ := lb_rows HLB.out hyN
      have p2r : wr.cell? ⟨ck, co + y, none⟩ = some (.slice ua (cl y).length uc) := (HF.out.cell hck (fun e => e)).trans p2
      have HU : Hd (∀ (k z : Nat), (cl y)[k]? = some z → ∃ uk uo, ua = some ⟨uk, uo, none⟩ ∧ ∀ W, Fr (fun _ => False) w W → W.cell? ⟨uk, uo + k, none⟩ = some (vI (z : Int))) := fun k z hz => by
        obtain ⟨uk, uo, e, huk, hc⟩ := hu k z hz
        exact ⟨uk, uo, e, fun W fW => (fW.cell huk (fun e => e)).trans hc⟩
      have y0 : (0 : Int) ≤ y := by omega
      have y1 : (y : Int) < N := by omega
      have hyl := HCL.out.2 y hyN
      have HYN : Hd (∀ z ∈ cl y, z < N) := HCL.out.1 y hyN
      have HFz : Hd (Fr (fun _ => False) w wr) := HF.out
      clear p2 hck hu HF
      go_wp2_with fail
      go_loopw [9] (fun v wx => ∃ k : Nat, v = .int .i64 k ∧ k ≤ (cl y).length ∧ Hd (∀ z ∈ (cl y).take k, z ∈ ms ∨ 0 ≤ wh z) ∧ Hd (Fr (fun _ => False) w wx)) (fun v _ => match v with | .int _ q => (cl y).length - q.toNat | _ => 0)
      case atStart => exact ⟨0, by simp, Nat.zero_le _, by unfold Hd; simp, HFz.out⟩
      case round =>
        clear HFz p0 p2r
        obtain ⟨k, rfl, hk, HB, HF⟩ := hrel
        by_cases hltk : k < (cl y).length
        · have d2 : decide ((k : Int) < ((cl y).length : Int)) = true := by simp; omega
          have k0 : (0 : Int) ≤ k := by omega
          have k1 : (k : Int) < ((cl y).length : Int) := by omega
          obtain ⟨z, hz⟩ : ∃ z, (cl y)[k]? = some z := ⟨_, List.getElem?_eq_getElem hltk⟩
          have hzm : z ∈ cl y := List.mem_of_getElem? hz
          have hzN := HYN.out z hzm
          obtain ⟨uk, uo, rfl, hcz⟩ := HU.out k z hz
          have HCZ : Hd (∀ W, Fr (fun _ => False) w W → W.cell? ⟨uk, uo + k, none⟩ = some (vI (z : Int))) := hcz
          have HTK2 : Hd ((cl y).take (k + 1) = (cl y).take k ++ [z] ∧ z ∈ cl y) := ⟨by rw [List.take_add_one, hz]; rfl, hzm⟩
          have z0 : (0 : Int) ≤ z := by omega
          have z1 : (z : Int) < N := by omega
          have HFz : Hd (Fr (fun _ => False) w wr) := HF.out
          clear hcz hz hzm HF
          go_wp2_with fail
          go_loopw [10, 11] (fun v10 v wx => ∃ (j : Nat) (ob : Bool), v = .int .i64 j ∧ v10 = .bool ob ∧ j ≤ ms.length ∧ Hd (ob = true ↔ z ∈ ms.take j) ∧ Hd (Fr (fun _ => False) w wx)) (fun _ v _ => match v with | .int _ q => ms.length - q.toNat | _ => 0)
          case atStart => exact ⟨0, false, by simp, rfl, Nat.zero_le _, by unfold Hd; simp, HFz.out⟩
          case round =>
            clear HFz
            obtain ⟨j, ob, rfl, rfl, hj, HO, HF⟩ := hrel
            by_cases hltj : j < ms.length
            · have d3 : decide ((j : Int) < (ms.length : Int)) = true := by simp; omega
              have j0 : (0 : Int) ≤ j := by omega
              have j1 : (j : Int) < ms.length := by omega
              have HTJ : Hd (ms.take (j + 1) = ms.take j ++ [ms[j]]) := by unfold Hd; rw [List.take_add_one, List.getElem?_eq_getElem hltj]; rfl
              have HMJ : Hd (∀ W, Fr (fun _ => False) w W → W.cell? ⟨mg, mo + j, none⟩ = some (vI (ms[j] : Nat))) := fun W fW => HM.out W fW j hltj
              generalize ms[j] = x at *
              cases ob with
              | true =>
                have HO2 : Hd (true = true ↔ z ∈ ms.take (j + 1)) := by
                  unfold Hd
                  rw [HTJ.out, List.mem_append]
                  exact ⟨fun _ => Or.inl (HO.out.1 rfl), fun _ => rfl⟩
                clear HO HTJ hltj
                go_upto_region 12 with fail
                refine wp_region_held_drew (S := fun W => Fr (fun _ => False) w W) (by kernel_rfl) (HF.out.drew) (fun hHeld => ?_)
                refine heldTake (i := 0) 37 (v := ?_) rfl rfl (by kernel_rfl) (by kernel_rfl) (by kernel_rfl) (fun _ _ _ h => h) (by kernel_rfl) (fun w2 hSw => (by have q0 := HMJ.out w2 hSw; have q1 := HCZ.out w2 hSw; go_simp; try with_reducible rfl)) hHeld ?_
                simp only [Act.put, List.setIfInBounds_toArray, List.set_cons_zero, List.set_cons_succ]
                refine heldTake (i := 1) 38 (v := ?_) rfl rfl (by kernel_rfl) (by kernel_rfl) (by kernel_rfl) (fun _ _ _ h => h) (by kernel_rfl) (fun w2 hSw => (by have q0 := HMJ.out w2 hSw; have q1 := HCZ.out w2 hSw; go_simp; try with_reducible rfl)) hHeld ?_
                simp only [Act.put, List.setIfInBounds_toArray, List.set_cons_zero, List.set_cons_succ]
                refine heldPass (i := 2) 39 rfl rfl (by kernel_rfl) (by kernel_rfl) (by kernel_rfl) (fun _ _ _ h => h) (by kernel_rfl) hHeld ?_
                simp only [Act.put, List.setIfInBounds_toArray, List.set_cons_zero, List.set_cons_succ]
                refine heldPass (i := 3) 40 rfl rfl (by kernel_rfl) (by kernel_rfl) (by kernel_rfl) (fun _ _ _ h => h) (by kernel_rfl) hHeld ?_
                simp only [Act.put, List.setIfInBounds_toArray, List.set_cons_zero, List.set_cons_succ]
                refine heldPass (i := 4) 41 rfl rfl (by kernel_rfl) (by kernel_rfl) (by kernel_rfl) (fun _ _ _ h => h) (by kernel_rfl) hHeld ?_
                simp only [Act.put, List.setIfInBounds_toArray, List.set_cons_zero, List.set_cons_succ]
                refine heldPass (i := 5) 42 rfl rfl (by kernel_rfl) (by kernel_rfl) (by kernel_rfl) (fun _ _ _ h => h) (by kernel_rfl) hHeld ?_
                simp only [Act.put, List.setIfInBounds_toArray, List.set_cons_zero, List.set_cons_succ]
                refine heldPass (i := 6) 43 rfl rfl (by kernel_rfl) (by kernel_rfl) (by kernel_rfl) (fun _ _ _ h => h) (by kernel_rfl) hHeld ?_
                simp only [Act.put, List.setIfInBounds_toArray, List.set_cons_zero, List.set_cons_succ]
                refine heldPass (i := 7) 44 rfl rfl (by kernel_rfl) (by kernel_rfl) (by kernel_rfl) (fun _ _ _ h => h) (by kernel_rfl) hHeld ?_
                simp only [Act.put, List.setIfInBounds_toArray, List.set_cons_zero, List.set_cons_succ]
                refine heldPass (i := 8) 45 rfl rfl (by kernel_rfl) (by kernel_rfl) (by kernel_rfl) (fun _ _ _ h => h) (by kernel_rfl) hHeld ?_
                simp only [Act.put, List.setIfInBounds_toArray, List.set_cons_zero, List.set_cons_succ]
                refine heldPass (i := 9) 46 rfl rfl (by kernel_rfl) (by kernel_rfl) (by kernel_rfl) (fun _ _ _ h => h) (by kernel_rfl) hHeld ?_
                simp only [Act.put, List.setIfInBounds_toArray, List.set_cons_zero, List.set_cons_succ]
                refine heldPass (i := 10) 47 rfl rfl (by kernel_rfl) (by kernel_rfl) (by kernel_rfl) (fun _ _ _ h => h) (by kernel_rfl) hHeld ?_
                simp only [Act.put, List.setIfInBounds_toArray, List.set_cons_zero, List.set_cons_succ]
                refine heldTake (i := 11) 48 (v := ?_) rfl rfl (by kernel_rfl) (by kernel_rfl) (by kernel_rfl) (fun _ _ _ h => h) (by kernel_rfl) (fun w2 hSw => (by have q0 := HMJ.out w2 hSw; have q1 := HCZ.out w2 hSw; go_simp; try with_reducible rfl)) hHeld ?_
                simp only [Act.put, List.setIfInBounds_toArray, List.set_cons_zero, List.set_cons_succ]
                refine heldTake (i := 12) 10 (v := ?_) rfl rfl (by kernel_rfl) (by kernel_rfl) (by kernel_rfl) (fun _ _ _ h => h) (by kernel_rfl) (fun w2 hSw => (by have q0 := HMJ.out w2 hSw; have q1 := HCZ.out w2 hSw; go_simp; try with_reducible rfl)) hHeld ?_
                simp only [Act.put, List.setIfInBounds_toArray, List.set_cons_zero, List.set_cons_succ]
                refine wpAnyH_done (by kernel_rfl) ?_ _
                have HF6 : Hd (Fr (fun _ => False) w wr.drew) := HF.out.drew
                clear hHeld HF
                go_wp2_with fail
                go_roundw
                case measure => simp; omega
                case rel => exact ⟨j + 1, true, by simp, rfl, by omega, HO2.out, HF6.out⟩
              | false =>
                obtain ⟨eb, heb⟩ : ∃ eb, eb = ((x : Int) == (z : Int)) := ⟨_, rfl⟩
                have e1 : ((x : Int) == (z : Int)) = eb := heb.symm
                have e1' : decide (x = z) = eb := by rw [heb, Bool.eq_iff_iff]; simp; omega
                have HO2 : Hd (eb = true ↔ z ∈ ms.take (j + 1)) := by
                  unfold Hd
                  rw [HTJ.out, List.mem_append, List.mem_singleton, ← e1', decide_eq_true_eq]
                  constructor
                  · intro e; exact Or.inr e.symm
                  · rintro (e | e)
                    · have := HO.out.2 e; cases this
                    · exact e.symm
                clear HO HTJ hltj heb
                go_upto_region 12 with fail
                refine wp_region_held_drew (S := fun W => Fr (fun _ => False) w W) (by kernel_rfl) (HF.out.drew) (fun hHeld => ?_)
                refine heldTake (i := 0) 37 (v := ?_) rfl rfl (by kernel_rfl) (by kernel_rfl) (by kernel_rfl) (fun _ _ _ h => h) (by kernel_rfl) (fun w2 hSw => (by have q0 := HMJ.out w2 hSw; have q1 := HCZ.out w2 hSw; go_simp; try with_reducible rfl)) hHeld ?_
                simp only [Act.put, List.setIfInBounds_toArray, List.set_cons_zero, List.set_cons_succ]
                refine heldTake (i := 1) 38 (v := ?_) rfl rfl (by kernel_rfl) (by kernel_rfl) (by kernel_rfl) (fun _ _ _ h => h) (by kernel_rfl) (fun w2 hSw => (by have q0 := HMJ.out w2 hSw; have q1 := HCZ.out w2 hSw; go_simp; try with_reducible rfl)) hHeld ?_
                simp only [Act.put, List.setIfInBounds_toArray, List.set_cons_zero, List.set_cons_succ]
                refine heldTake (i := 2) 39 (v := ?_) rfl rfl (by kernel_rfl) (by kernel_rfl) (by kernel_rfl) (fun _ _ _ h => h) (by kernel_rfl) (fun w2 hSw => (by have q0 := HMJ.out w2 hSw; have q1 := HCZ.out w2 hSw; go_simp; try with_reducible rfl)) hHeld ?_
                simp only [Act.put, List.setIfInBounds_toArray, List.set_cons_zero, List.set_cons_succ]
                refine heldTake (i := 3) 40 (v := ?_) rfl rfl (by kernel_rfl) (by kernel_rfl) (by kernel_rfl) (fun _ _ _ h => h) (by kernel_rfl) (fun w2 hSw => (by have q0 := HMJ.out w2 hSw; have q1 := HCZ.out w2 hSw; go_simp; try with_reducible rfl)) hHeld ?_
                simp only [Act.put, List.setIfInBounds_toArray, List.set_cons_zero, List.set_cons_succ]
                refine heldTake (i := 4) 41 (v := ?_) rfl rfl (by kernel_rfl) (by kernel_rfl) (by kernel_rfl) (fun _ _ _ h => h) (by kernel_rfl) (fun w2 hSw => (by have q0 := HMJ.out w2 hSw; have q1 := HCZ.out w2 hSw; go_simp; try with_reducible rfl)) hHeld ?_
                simp only [Act.put, List.setIfInBounds_toArray, List.set_cons_zero, List.set_cons_succ]
                refine heldTake (i := 5) 42 (v := ?_) rfl rfl (by kernel_rfl) (by kernel_rfl) (by kernel_rfl) (fun _ _ _ h => h) (by kernel_rfl) (fun w2 hSw => (by have q0 := HMJ.out w2 hSw; have q1 := HCZ.out w2 hSw; go_simp; try with_reducible rfl)) hHeld ?_
                simp only [Act.put, List.setIfInBounds_toArray, List.set_cons_zero, List.set_cons_succ]
                refine heldTake (i := 6) 43 (v := ?_) rfl rfl (by kernel_rfl) (by kernel_rfl) (by kernel_rfl) (fun _ _ _ h => h) (by kernel_rfl) (fun w2 hSw => (by have q0 := HMJ.out w2 hSw; have q1 := HCZ.out w2 hSw; go_simp; try with_reducible rfl)) hHeld ?_
                simp only [Act.put, List.setIfInBounds_toArray, List.set_cons_zero, List.set_cons_succ]
                refine heldTake (i := 7) 44 (v := ?_) rfl rfl (by kernel_rfl) (by kernel_rfl) (by kernel_rfl) (fun _ _ _ h => h) (by kernel_rfl) (fun w2 hSw => (by have q0 := HMJ.out w2 hSw; have q1 := HCZ.out w2 hSw; go_simp; try with_reducible rfl)) hHeld ?_
                simp only [Act.put, List.setIfInBounds_toArray, List.set_cons_zero, List.set_cons_succ]
                refine heldTake (i := 8) 45 (v := ?_) rfl rfl (by kernel_rfl) (by kernel_rfl) (by kernel_rfl) (fun _ _ _ h => h) (by kernel_rfl) (fun w2 hSw => (by have q0 := HMJ.out w2 hSw; have q1 := HCZ.out w2 hSw; go_simp; try with_reducible rfl)) hHeld ?_
                simp only [Act.put, List.setIfInBounds_toArray, List.set_cons_zero, List.set_cons_succ]
                refine heldTake (i := 9) 46 (v := ?_) rfl rfl (by kernel_rfl) (by kernel_rfl) (by kernel_rfl) (fun _ _ _ h => h) (by kernel_rfl) (fun w2 hSw => (by have q0 := HMJ.out w2 hSw; have q1 := HCZ.out w2 hSw; go_simp; try with_reducible rfl)) hHeld ?_
                simp only [Act.put, List.setIfInBounds_toArray, List.set_cons_zero, List.set_cons_succ]
                refine heldTake (i := 10) 47 (v := ?_) rfl rfl (by kernel_rfl) (by kernel_rfl) (by kernel_rfl) (fun _ _ _ h => h) (by kernel_rfl) (fun w2 hSw => (by have q0 := HMJ.out w2 hSw; have q1 := HCZ.out w2 hSw; go_simp; try with_reducible rfl)) hHeld ?_
                simp only [Act.put, List.setIfInBounds_toArray, List.set_cons_zero, List.set_cons_succ]
                refine heldTake (i := 11) 48 (v := ?_) rfl rfl (by kernel_rfl) (by kernel_rfl) (by kernel_rfl) (fun _ _ _ h => h) (by kernel_rfl) (fun w2 hSw => (by have q0 := HMJ.out w2 hSw; have q1 := HCZ.out w2 hSw; go_simp; try with_reducible rfl)) hHeld ?_
                simp only [Act.put, List.setIfInBounds_toArray, List.set_cons_zero, List.set_cons_succ]
                refine heldTake (i := 12) 10 (v := ?_) rfl rfl (by kernel_rfl) (by kernel_rfl) (by kernel_rfl) (fun _ _ _ h => h) (by kernel_rfl) (fun w2 hSw => (by have q0 := HMJ.out w2 hSw; have q1 := HCZ.out w2 hSw; go_simp; try with_reducible rfl)) hHeld ?_
                simp only [Act.put, List.setIfInBounds_toArray, List.set_cons_zero, List.set_cons_succ]
                refine wpAnyH_done (by kernel_rfl) ?_ _
                have HF6 : Hd (Fr (fun _ => False) w wr.drew) := HF.out.drew
                clear hHeld HF e1 e1'
                go_wp2_with fail
                go_roundw
                case measure => simp; omega
                case rel => exact ⟨j + 1, eb, by simp, rfl, by omega, HO2.out, HF6.out⟩
            · have d3 : decide ((j : Int) < (ms.length : Int)) = false := by simp; omega
              have d3n : ¬ j < ms.length := hltj
              have hob : ob = true ↔ z ∈ ms := by have := HO.out; rwa [List.take_of_length_le (by omega)] at this
              have p5 := HCZ.out wr HF.out
              have p6 := HW.out wr HF.out z hzN
              clear HO hltj
              cases ob with
              | true =>
                have HB2 : Hd (∀ q ∈ (cl y).take (k + 1), q ∈ ms ∨ 0 ≤ wh q) := fun q hq => by
                  rw [HTK2.out.1, List.mem_append, List.mem_singleton] at hq
                  rcases hq with hq | rfl
                  · exact HB.out q hq
                  · exact Or.inl (hob.1 rfl)
                clear hob
                go_wp2_with fail
                go_roundw
                case measure => simp; omega
                case rel => exact ⟨k + 1, by simp, by omega, HB2.out, HF.out⟩
              | false =>
                have hnm : z ∉ ms := fun e => by have := hob.2 e; cases this
                have HZY : Hd (y ∈ ms ∧ z ∈ cl y ∧ z ∉ ms) := ⟨HTK.out.2, HTK2.out.2, hnm⟩
                obtain ⟨zz, hzz⟩ : ∃ zz, zz = wh z := ⟨_, rfl⟩
                have HZZ : Hd (zz = wh z) := hzz
                rw [← hzz] at p6
                clear hzz
                by_cases hneg : zz < 0
                · have d4 : decide (zz < 0) = true := by simp; exact hneg
                  have HE : Hd (RyE cl ms wh w (.returned (.bool false)) wr) := by
                    refine ⟨false, rfl, ⟨fun e => (by cases e), fun ha => ?_⟩, HF.out⟩
                    rcases ha y HZY.out.1 z HZY.out.2.1 with h1 | h1
                    · exact absurd h1 HZY.out.2.2
                    · rw [← HZZ.out] at h1
                      omega
                  clear hob hnm
                  go_wp2_with fail
                  go_ret
                  exact HE.out
                · have d4 : decide (zz < 0) = false := by simp; omega
                  have HB2 : Hd (∀ q ∈ (cl y).take (k + 1), q ∈ ms ∨ 0 ≤ wh q) := fun q hq => by
                    rw [HTK2.out.1, List.mem_append, List.mem_singleton] at hq
                    rcases hq with hq | rfl
                    · exact HB.out q hq
                    · exact Or.inr (by rw [← HZZ.out]; omega)
                  clear hob hnm
                  go_wp2_with fail
                  go_roundw
                  case measure => simp; omega
                  case rel => exact ⟨k + 1, by simp, by omega, HB2.out, HF.out⟩
        · have d2 : decide ((k : Int) < ((cl y).length : Int)) = false := by simp; omega
          have d2n : ¬ k < (cl y).length := hltk
          have HA2 : Hd (∀ x ∈ ms.take (i + 1), ∀ z ∈ cl x, z ∈ ms ∨ 0 ≤ wh z) := fun x hx z hz => by
            rw [HTK.out.1, List.mem_append, List.mem_singleton] at hx
            rcases hx with hx | rfl
            · exact HA.out x hx z hz
            · exact HB.out z (by rw [List.take_of_length_le (by omega)]; exact hz)
          clear hltk HB HU
          go_wp2_with fail
          go_roundw
          case measure => simp; omega
          case rel => exact ⟨i + 1, by simp, by omega, HA2.out, HF.out⟩
    · have d1 : decide ((i : Int) < (ms.length : Int)) = false := by simp; omega
      have d1n : ¬ i < ms.length := hlt
      have HE : Hd (RyE cl ms wh w (.returned (.bool true)) wr) := ⟨true, rfl, ⟨fun _ x hx => HA.out x (by rw [List.take_of_length_le (by omega)]; exact hx), fun _ => rfl⟩, HF.out⟩
      clear hlt HA
      go_wp2_with fail
      go_ret
      exact HE.out

/-- The values of a list's places, by what stands there. -/
theorem by_name {l : List Nat} {us : List Value} (hn : l.Nodup) (hl : us.length = l.length) : ∃ U : Nat → Value, us = l.map U := by
  refine ⟨fun f => us.getD (l.idxOf f) undef, ?_⟩
  apply List.ext_getElem
  · rw [List.length_map, hl]
  · intro i h1 h2
    rw [List.getElem_map, hn.idxOf_getElem i (by omega)]
    simp [h1]
/-- Where a function's component stands as far as k of them are numbered. -/
def whX (of : Nat → Nat) (k x : Nat) : Int := if of x < k then (of x : Int) else -1
theorem whX_ge {of : Nat → Nat} {k x : Nat} : 0 ≤ whX of k x ↔ of x < k := by unfold whX; split <;> omega
/-- The same while component k is being numbered. -/
def whM (of : Nat → Nat) (k : Nat) (d : List Nat) (x : Nat) : Int := if x ∈ d then (k : Int) else whX of k x
theorem whM_nil (of : Nat → Nat) (k : Nat) : whM of k [] = whX of k := by funext x; simp [whM]
theorem whM_all {N k : Nat} {of : Nat → Nat} {x : Nat} (hx : x < N) : whM of k (memX N of k) x = whX of (k + 1) x := by
  unfold whM whX
  by_cases e : of x = k
  · rw [if_pos (mem_memX.2 ⟨hx, e⟩), if_pos (by omega), e]
  · rw [if_neg (fun h => e (mem_memX.1 h).2)]
    by_cases e2 : of x < k
    · rw [if_pos e2, if_pos (by omega)]
    · rw [if_neg e2, if_neg (by omega)]
/-- Numbers in a row of one's own, one of them written over. -/
theorem IOwn.put {w : World} {B g cap N x : Nat} {f : Nat → Int} (h : IOwn w B (.slice (some ⟨g, 0, none⟩) N cap) ((List.range N).map f)) (hx : x < N) (z : Int) :
    IOwn (w.setCell ⟨g, x, none⟩ (vI z)) B (.slice (some ⟨g, 0, none⟩) N cap) ((List.range N).map (fun y => if y = x then z else f y)) := by
  have e : ((List.range N).map f).length = N := by simp
  unfold IOwn at h ⊢
  rw [e] at h
  rw [show ((List.range N).map (fun y => if y = x then z else f y)).length = N by simp]
  have k := row_set (j := x) h (vI z)
  have e2 : (((List.range N).map f).map vI).set x (vI z) = ((List.range N).map (fun y => if y = x then z else f y)).map vI := by
    apply List.ext_getElem
    · simp
    · intro i h1 h2
      rw [List.getElem_set]
      simp only [List.getElem_map, List.getElem_range]
      by_cases e3 : i = x
      · rw [if_pos e3.symm, if_pos e3]
      · rw [if_neg (fun e => e3 e.symm), if_neg e3]
  rw [← e2]
  exact k.1
theorem IOwn.melt {w : World} {B g cap N x : Nat} {f : Nat → Int} (h : IOwn w B (.slice (some ⟨g, 0, none⟩) N cap) ((List.range N).map f)) : w.frozen? ⟨g, x, none⟩ = false := by
  unfold IOwn at h
  rw [show ((List.range N).map f).length = N by simp] at h
  exact (row_set (j := x) h (vI 0)).2
theorem IOwn.at {w : World} {B g cap N x : Nat} {f : Nat → Int} (h : IOwn w B (.slice (some ⟨g, 0, none⟩) N cap) ((List.range N).map f)) (hx : x < N) : w.cell? ⟨g, x, none⟩ = some (vI (f x)) := by
  obtain ⟨g', c', e, -, hc⟩ := iown_some h (by simp; omega)
  injection e with e1
  injection e1 with e1
  injection e1 with e1
  subst e1
  rw [hc x (by simp; exact hx)]
  simp

/-- The document's graph while k of its components are numbered. -/
structure Dk (N : Nat) (of : Nat → Nat) (U : Nat → Value) (wT : World) (b wg wc B9 : Nat) (cv : Value) (wx : World) (k : Nat) (wf : Nat → Int) (lv v7 : Value) (l7 : List Nat) : Prop where
  box : wx.heap[b]? = some (.cells #[lv, .slice (some ⟨wg, 0, none⟩) N wc, cv] 76)
  wh : IOwn wx (b + 1) (.slice (some ⟨wg, 0, none⟩) N wc) ((List.range N).map wf)
  l : wx.ownsRow wT.heap.size 25 1 lv k ((List.range k).map (fun c => U (lwX N of c)))
  left : wx.ownsRow B9 25 1 v7 l7.length (l7.map U)
  ap : ∀ q, lv.ownBlock = some q → v7.ownBlock ≠ some q
  fr : Fr (fun q => q = b ∨ q = wg) wT wx
section
variable {N : Nat} {of : Nat → Nat} {U : Nat → Value} {wT wx : World} {b wg wc B9 k : Nat} {cv lv v7 : Value} {wf : Nat → Int} {l7 : List Nat}
theorem Dk.stay {wy : World} (h : Dk N of U wT b wg wc B9 cv wx k wf lv v7 l7) (f : Fr (fun _ => False) wx wy) : Dk N of U wT b wg wc B9 cv wy k wf lv v7 l7 :=
  ⟨keepF h.box f, h.wh.fr f (fun _ _ e => e), ownsRow_frL h.l f (fun _ _ e => e), ownsRow_frL h.left f (fun _ _ e => e), h.ap, h.fr.then f (fun _ _ e => e.elim)⟩
theorem Dk.put {x : Nat} (h : Dk N of U wT b wg wc B9 cv wx k wf lv v7 l7) (hb : b < wg) (hB : wg < B9) (hT : B9 ≤ wT.heap.size) (hx : x < N) (z : Int) : Dk N of U wT b wg wc B9 cv (wx.setCell ⟨wg, x, none⟩ (vI z)) k (fun y => if y = x then z else wf y) lv v7 l7 := by
  have f := setCell_fr wx wg x (vI z)
  refine ⟨?_, h.wh.put hx z, ownsRow_frL h.l f (fun q e e2 => ?_), ownsRow_frL h.left f (fun q e e2 => ?_), h.ap, h.fr.then f (fun q _ e => Or.inr e)⟩
  · rw [f.block b (heap_lt h.box) (by omega)]; exact h.box
  · have e2 : q = wg := e2
    have := (World.ownsRow.lt h.l q e).1; omega
  · have e2 : q = wg := e2
    have := (World.ownsRow.lt h.left q e).1; omega
/-- A component more. -/
theorem Dk.more {w6 : World} {g cap : Nat} {x : Value} (h : Dk N of U wT b wg wc B9 cv wx k wf lv v7 l7) (hb : b < wg) (hB : wg < B9) (hT : B9 ≤ wT.heap.size) (hx : x = U (lwX N of k)) (hg : wx.grownBy w6 lv.ownBlock) (ho : w6.ownsRow wT.heap.size 25 1 (.slice (some ⟨g, 0, none⟩) (k + 1) cap) (k + 1) ((List.range k).map (fun c => U (lwX N of c)) ++ [x])) (hat : lv.ownBlock = some g ∨ g = wx.heap.size) :
    Dk N of U wT b wg wc B9 cv (w6.setCell ⟨b, 0, none⟩ (.slice (some ⟨g, 0, none⟩) (k + 1) cap)) (k + 1) wf (.slice (some ⟨g, 0, none⟩) (k + 1) cap) v7 l7 := by
  have f := grown_frL hg
  have hl := fun q e => (World.ownsRow.lt h.l q e).1
  have h7 := fun q e => (World.ownsRow.lt h.left q e)
  have hbx : w6.heap[b]? = some (.cells #[lv, .slice (some ⟨wg, 0, none⟩) N wc, cv] 76) := by
    rw [f.block b (heap_lt h.box) (fun e => by have := hl b e; omega)]; exact h.box
  have f2 := setCell_fr w6 b 0 (.slice (some ⟨g, 0, none⟩) (k + 1) cap)
  have hg2 : wT.heap.size ≤ g := (World.ownsRow.lt ho g rfl).1
  refine ⟨?_, ?_, ?_, ?_, ?_, ?_⟩
  · rw [set_of hbx]; rfl
  · refine IOwn.fr (IOwn.fr h.wh f (fun q e e2 => ?_)) f2 (fun q e e2 => ?_)
    · have e : wg = q := by injection e
      have := hl q e2; omega
    · have e2 : q = b := e2
      have e : wg = q := by injection e
      omega
  · refine ownsRow_frL ?_ f2 (fun q e e2 => ?_)
    · rw [List.range_succ, List.map_append, List.map_singleton, ← hx]; exact ho
    · have e2 : q = b := e2
      have e : g = q := by injection e
      omega
  · refine ownsRow_frL (ownsRow_frL h.left f (fun q e e2 => h.ap q e2 e)) f2 (fun q e e2 => ?_)
    have e2 : q = b := e2
    have := (h7 q e).1; omega
  · intro q e e2
    have e : g = q := by injection e
    subst e
    rcases hat with hat | hat
    · exact h.ap _ hat e2
    · have := (h7 _ e2).2; omega
  · exact (h.fr.then f (fun q hq e => by exfalso; have := hl q e; omega)).then f2 (fun q _ e => Or.inl e)
end
end Go.Proofs.YtjmbfjaahadbhaaDoor
namespace Go.Proofs.YtjmbfjaahadbhaaDoor

/-! ### a region that draws its order, whose last operation writes what an earlier one reads -/
section
variable {P : Program} {ops : Array Oper} {Q : Exit → Act → World → Prop} {md : Region.Mode} {S : World → Prop} {t : Nat}

/-- Whatever order is picked from here on, and S holds behind every operation but t. -/
def wpAnyT (P : Program) (md : Region.Mode) (ops : Array Oper) (Q : Exit → Act → World → Prop) (S : World → Prop) (t : Nat) : Nat → Array Bool → Act → World → Prop
  | 0, listed, a, w => Region.ready md ops listed = [] ∧ Q .normal a w
  | fuel + 1, listed, a, w =>
    (Region.ready md ops listed = [] → Q .normal a w) ∧
    ∀ i ∈ Region.ready md ops listed, wpOp P ops Q i (fun a' w' => (i ≠ t → S w') ∧ wpAnyT P md ops Q S t fuel (listed.setIfInBounds i true) a' w') a w

theorem wpAny_of_T : ∀ (fuel : Nat) (listed : Array Bool) (a : Act) (w : World), wpAnyT P md ops Q S t fuel listed a w → wpAny P md ops Q fuel listed a w
  | 0, _, _, _, h => h
  | fuel + 1, _, _, _, h => ⟨h.1, fun i hi => wpOp_mono (fun a' w' h' => wpAny_of_T fuel _ a' w' h'.2) (h.2 i hi)⟩

theorem wpAnyT_first {i : Nat} {oi : Oper} {v : Value} (hi : ops[i]? = some oi) (hsel : ∀ (j : Nat) (o : Oper) cs b, ops[j]? = some o → o.op ≠ .select cs b)
    (hQ : ∀ c a w, Q (.panic c) (a.put oi.dst v) w → Q (.panic c) a w) (ht : Region.waitsFor md ops t i = true) :
    ∀ (fuel : Nat) (listed : Array Bool) (a : Act) (w : World),
      (∀ j oj, ops[j]? = some oj → j ≠ i → listed.getD j true = false → (∀ e ∈ oj.after, Region.binds md e = true → e.on ≠ i) → oi.apart ops oj = true) →
      i ∈ Region.ready md ops listed → YieldsIf P ops S oi v a → S w →
      wpAnyT P md ops Q S t fuel (listed.setIfInBounds i true) (a.put oi.dst v) w → wpAnyT P md ops Q S t (fuel + 1) listed a w := by
  have hun : ∀ listed : Array Bool, i ∈ Region.ready md ops listed → listed.getD i false = true → False := fun listed hr h1 => by
    have h0 := (mem_ready.1 hr).1
    rcases Nat.lt_or_ge i listed.size with h' | h'
    · simp [h'] at h0 h1; rw [h0] at h1; cases h1
    · simp [Array.getElem?_eq_none h'] at h1
  have htn : ∀ listed : Array Bool, i ∈ Region.ready md ops listed → t ∉ Region.ready md ops listed := fun listed hr h => by
    obtain ⟨-, ot, hot, hall⟩ := mem_ready.1 h
    obtain ⟨ot', hot', e, he, hb, hon⟩ := Region.waitsFor_spec ht
    rw [hot] at hot'
    cases hot'
    have := hall e he hb
    rw [hon] at this
    exact hun listed hr this
  intro fuel
  induction fuel with
  | zero =>
    intro listed a w _ hr hy hS H
    refine ⟨fun h => (by rw [h] at hr; cases hr), fun j hj => ?_⟩
    by_cases hji : j = i
    · subst hji; exact hy.wpOp hi hS ⟨fun _ => hS, H⟩
    · have := ready_mono hj hji
      rw [H.1] at this
      cases this
  | succ fuel ih =>
    intro listed a w hfree hr hy hS H
    refine ⟨fun h => (by rw [h] at hr; cases hr), fun j hj => ?_⟩
    by_cases hji : j = i
    · subst hji; exact hy.wpOp hi hS ⟨fun _ => hS, H⟩
    · have hjt : j ≠ t := fun e => htn listed hr (e ▸ hj)
      have h1 := H.2 j (ready_mono hj hji)
      obtain ⟨hjun, oj, hoj, hall⟩ := mem_ready.1 hj
      have hnot : ∀ e ∈ oj.after, Region.binds md e = true → e.on ≠ i := fun e he hb heq => by
        have h1 := hall e he hb
        rw [heq] at h1
        exact hun listed hr h1
      have h2 := wpOp_putIf hoj (hfree j oj hoj hji hjun hnot) (fun cs b => hsel i oi cs b hi) (fun cs b => hsel j oj cs b hoj) hQ hy h1
      have hfree' : ∀ k ok, ops[k]? = some ok → k ≠ i → (listed.setIfInBounds j true).getD k true = false →
          (∀ e ∈ ok.after, Region.binds md e = true → e.on ≠ i) → oi.apart ops ok = true := fun k ok hk hki hun hno => by
        refine hfree k ok hk hki ?_ hno
        by_cases hjk : j = k
        · subst hjk; exact hjun
        · rw [getD_set_ne true hjk] at hun; exact hun
      refine wpOp_mono (fun a' w' h3 => ⟨h3.2.1, ih (listed.setIfInBounds j true) a' w' hfree' (ready_mono hr (Ne.symm hji)) h3.1 (h3.2.1 hjt) ?_⟩) h2
      rw [Array.setIfInBounds_comm _ _ hji]
      exact h3.2.2

/-- Take number i first. -/
theorem wpAnyT_take {i : Nat} {oi : Oper} {v : Value} {fuel : Nat} {listed : Array Bool} {a : Act} {w : World} (hi : ops[i]? = some oi)
    (hs : Region.noSelect ops = true) (hf : Region.free md ops listed i = true) (hr : (Region.ready md ops listed).contains i = true) (ht : Region.waitsFor md ops t i = true)
    (hQ : ∀ c a w, Q (.panic c) (a.put oi.dst v) w → Q (.panic c) a w) (hy : YieldsIf P ops S oi v a) (hS : S w)
    (h : wpAnyT P md ops Q S t fuel (listed.setIfInBounds i true) (a.put oi.dst v) w) : wpAnyT P md ops Q S t (fuel + 1) listed a w :=
  wpAnyT_first hi (Region.noSelect_spec hs) hQ ht fuel listed a w (Region.free_spec hi hf) (by simpa using hr) hy hS h

/-- The same, its place named. -/
theorem wpAnyT_takeAt {i : Nat} (d : Tmp) {oi : Oper} {v : Value} {fuel : Nat} {listed : Array Bool} {a : Act} {w : World} (hi : ops[i]? = some oi) (hd : oi.dst = some d)
    (hs : Region.noSelect ops = true) (hf : Region.free md ops listed i = true) (hr : (Region.ready md ops listed).contains i = true) (ht : Region.waitsFor md ops t i = true)
    (hQ : ∀ c a w, Q (.panic c) (a.put (some d) v) w → Q (.panic c) a w) (hy : YieldsIf P ops S oi v a) (hS : S w)
    (h : wpAnyT P md ops Q S t fuel (listed.setIfInBounds i true) (a.put (some d) v) w) : wpAnyT P md ops Q S t (fuel + 1) listed a w :=
  wpAnyT_take hi hs hf hr ht (by rw [hd]; exact hQ) hy hS (by rw [hd]; exact h)

/-- One alone may come up. -/
theorem wpAnyT_one {i : Nat} {o : Oper} {fuel : Nat} {listed : Array Bool} {a : Act} {w : World} (ho : ops[i]? = some o) (hr : Region.ready md ops listed = [i])
    (h : ∀ K' : Act → World → Prop, Shut (∀ a w, (i ≠ t → S w) → wpAnyT P md ops Q S t fuel (listed.setIfInBounds i true) a w → K' a w) → if Region.wanted o (yielded ops a.tmps) = true then Oper.wp P o a w K' Q else K' (a.put o.dst undef) w) : wpAnyT P md ops Q S t (fuel + 1) listed a w := by
  refine ⟨fun h0 => (by rw [hr] at h0; cases h0), fun j hj => ?_⟩
  rw [hr] at hj
  obtain rfl := List.mem_singleton.1 hj
  exact wpOp_step ho (fun K' hK => h K' (fun a w h1 h2 => hK a w ⟨h1, h2⟩))

theorem wpAnyT_done {listed : Array Bool} {a : Act} {w : World} (hr : Region.ready md ops listed = []) (h : Q .normal a w) :
    ∀ fuel, wpAnyT P md ops Q S t fuel listed a w
  | 0 => ⟨hr, h⟩
  | _ + 1 => ⟨fun _ => h, by rw [hr]; simp⟩

/-- The beginning. -/
theorem wp_region_T {id : Nat} {a : Act} {w : World} (hm : P.follows .mixedOrders = true)
    (h : wpAnyT P .any ops Q S t ops.size (Array.replicate ops.size false) a w.drew) : (Code.region id ops true).wp P Q a w :=
  wp_region_any hm (wpAny_of_T _ _ _ _ h)
end

end Go.Proofs.YtjmbfjaahadbhaaDoor
