import Derived.Test.YtmdlebolmhnhaabZ1
import Derived.Deep.RegionHeld3
import Derived.Deep.DeepCutAuto
namespace Go.Proofs.Ytmdlebolmhnhaab
open Go.RowKit (wrap32 wrap64)
open Go.Maps (Keyed)
set_option linter.unusedVariables false
set_option linter.unusedSimpArgs false

set_option maxRecDepth 100000 in
set_option maxHeartbeats 2000000 in
/-- begun: two memories with two globals and a frame each. -/
theorem begun_any (w : World) : Calls Try.prog 5 #[] w fun e w' => ∃ wb, e = .returned (ptr wb) ∧ St w wb 1 w' := by
  have HK0 : Hd _ := Wk.begin0 w (fun _ => 0) (fun _ => 0) (fun _ => newG 0) (fun _ => ⟨fun _ => 0, .slice none 0 0, .slice none 0 0, .slice none 0 0, [], []⟩) (fun _ => newX 2) (fun _ => rnewX 2)
  go_enter Try.func5, Try.ntmps5
  go_wp2_with fail
  obtain ⟨wb, hwb⟩ : ∃ wb, wb = w.heap.size := ⟨_, rfl⟩
  rw [← hwb] at HK0 ⊢
  clear hwb
  go_loopw [2] (fun v wr => ∃ (k : Nat), v = .int .i64 k ∧ k ≤ 2 ∧ Hd (∃ pb rb pg rg pa ra, Wk k k w wr wb pb rb pg rg pa ra ∧ ∀ i, i < k → pa i = pushX (newX 2) ∧ ra i = { rnewX 2 with frs := (rnewX 2).frs ++ [[]] })) (fun v _ => match v with | .int _ q => 2 - q.toNat | _ => 0)
  case atStart => exact ⟨0, rfl, by omega, ⟨_, _, _, _, _, _, HK0.out, fun i hi => absurd hi (Nat.not_lt_zero _)⟩⟩
  case round =>
    obtain ⟨k, rfl, hk, HX⟩ := hrel
    clear HK0
    obtain ⟨pb, rb, pg, rg, pa, ra, hK, hV⟩ := HX.out
    have HK : Hd _ := hK
    have HV : Hd _ := hV
    clear hK hV HX
    rcases (show k = 0 ∨ k = 1 ∨ k = 2 by omega) with rfl | rfl | rfl
    · have HKd : Hd _ := HK.out.keep (Fr.drew (Fr.refl _ wr))
      clear HK
      go_upto_region 5 with fail
      go_region_held3 (fun _ => True) (trivial) ((
        first
          | (go_at_call 8
             refine (show Calls Try.prog 8 #[vI 2] wr.drew _ from new_int 2 wr.drew).mono ?_
             rintro e w2 ⟨b, g, rfl, hM2, hF2, hN2⟩
             have HK2 : Hd _ := HKd.out.pnew (by omega) hM2 hF2 hN2
             have hK2 := HKd.out.keep hF2
             have d0 : w2.cell? ⟨wb, 0, none⟩ = some nilP := by rw [cell_of hK2.blk]; rfl
             have f0 := frozen_of hK2.blk 0
             clear hM2 hF2 hN2 hK2)))
      clear d0 f0 HKd
      change Hd (Wk _ _ _ (w2.setCell ⟨wb, 0, none⟩ (.pointer (some ⟨b, 0, none⟩))) _ _ _ _ _ _ _) at HK2
      generalize w2.setCell ⟨wb, 0, none⟩ (.pointer (some ⟨b, 0, none⟩)) = w3 at *
      have HK3d : Hd _ := HK2.out.keep (Fr.drew (Fr.refl _ w3))
      clear HK2
      go_wp2_with fail
      go_region_held3 (fun _ => True) (trivial) ((
        first
          | (go_at_call 14
             refine (show Calls Try.prog 14 #[vI 2] w3.drew _ from rnew_any 2 w3.drew).mono ?_
             rintro e w4 ⟨rb1, rg1, rfl, hM4, hF4, hN4⟩
             have HK4 : Hd _ := HK3d.out.rnew (by omega) hM4 hF4 hN4
             have hK4 := HK3d.out.keep hF4
             have d0 : w4.cell? ⟨wb, 2 + 0, none⟩ = some nilP := by rw [cell_of hK4.blk]; rfl
             have f0 := frozen_of hK4.blk (2 + 0)
             clear hM4 hF4 hN4 hK4)))
      clear d0 f0 HK3d
      change Hd (Wk _ _ _ (w4.setCell ⟨wb, 2, none⟩ (.pointer (some ⟨rb1, 0, none⟩))) _ _ _ _ _ _ _) at HK4
      generalize w4.setCell ⟨wb, 2, none⟩ (.pointer (some ⟨rb1, 0, none⟩)) = w5 at *
      have c0 : w5.cell? ⟨wb, 0, none⟩ = some (.pointer (some ⟨b, 0, none⟩)) := by rw [cell_of HK4.out.blk]; rfl
      go_wp2_with fail
      refine (show Calls Try.prog 9 #[.pointer (some ⟨b, 0, none⟩)] w5 _ from push_any b g (newX 2) w5 (HK4.out.pm 0 (by omega)) (by simp [newX])).mono ?_
      rintro e w6 ⟨g6, rfl, hM6, hF6, hE6⟩
      have HK6 : Hd _ := HK4.out.pcall (i := 0) (by omega) hM6 hF6 hE6
      clear hM6 hF6 hE6 HK4 c0
      have c0 : w6.cell? ⟨wb, 2, none⟩ = some (.pointer (some ⟨rb1, 0, none⟩)) := by rw [cell_of HK6.out.blk]; rfl
      go_wp2_with fail
      refine (show Calls Try.prog 15 #[.pointer (some ⟨rb1, 0, none⟩)] w6 _ from rpush_any rb1 rg1 (rnewX 2) w6 (HK6.out.rm 0 (by omega)) (by simp [rnewX])).mono ?_
      rintro e w7 ⟨rfl, g7, hM7, hF7, hE7⟩
      have HK7 : Hd _ := HK6.out.rcall (i := 0) (by omega) hM7 hF7 hE7
      clear hM7 hF7 hE7 HK6 c0
      go_wp2_with fail
      refine ⟨⟨1, by simp, by omega, ⟨_, _, _, _, _, _, HK7.out, fun i hi => ?_⟩⟩, by simp⟩
      rcases (show i = 0 ∨ i < 0 by omega) with rfl | hlt
      · exact ⟨rfl, rfl⟩
      · omega
    · have HKd : Hd _ := HK.out.keep (Fr.drew (Fr.refl _ wr))
      clear HK
      go_upto_region 5 with fail
      go_region_held3 (fun _ => True) (trivial) ((
        first
          | (go_at_call 8
             refine (show Calls Try.prog 8 #[vI 2] wr.drew _ from new_int 2 wr.drew).mono ?_
             rintro e w2 ⟨b, g, rfl, hM2, hF2, hN2⟩
             have HK2 : Hd _ := HKd.out.pnew (by omega) hM2 hF2 hN2
             have hK2 := HKd.out.keep hF2
             have d0 : w2.cell? ⟨wb, 1, none⟩ = some nilP := by rw [cell_of hK2.blk]; rfl
             have f0 := frozen_of hK2.blk 1
             clear hM2 hF2 hN2 hK2)))
      clear d0 f0 HKd
      change Hd (Wk _ _ _ (w2.setCell ⟨wb, 1, none⟩ (.pointer (some ⟨b, 0, none⟩))) _ _ _ _ _ _ _) at HK2
      generalize w2.setCell ⟨wb, 1, none⟩ (.pointer (some ⟨b, 0, none⟩)) = w3 at *
      have HK3d : Hd _ := HK2.out.keep (Fr.drew (Fr.refl _ w3))
      clear HK2
      go_wp2_with fail
      go_region_held3 (fun _ => True) (trivial) ((
        first
          | (go_at_call 14
             refine (show Calls Try.prog 14 #[vI 2] w3.drew _ from rnew_any 2 w3.drew).mono ?_
             rintro e w4 ⟨rb1, rg1, rfl, hM4, hF4, hN4⟩
             have HK4 : Hd _ := HK3d.out.rnew (by omega) hM4 hF4 hN4
             have hK4 := HK3d.out.keep hF4
             have d0 : w4.cell? ⟨wb, 2 + 1, none⟩ = some nilP := by rw [cell_of hK4.blk]; rfl
             have f0 := frozen_of hK4.blk (2 + 1)
             clear hM4 hF4 hN4 hK4)))
      clear d0 f0 HK3d
      change Hd (Wk _ _ _ (w4.setCell ⟨wb, 3, none⟩ (.pointer (some ⟨rb1, 0, none⟩))) _ _ _ _ _ _ _) at HK4
      generalize w4.setCell ⟨wb, 3, none⟩ (.pointer (some ⟨rb1, 0, none⟩)) = w5 at *
      have c0 : w5.cell? ⟨wb, 1, none⟩ = some (.pointer (some ⟨b, 0, none⟩)) := by rw [cell_of HK4.out.blk]; rfl
      go_wp2_with fail
      refine (show Calls Try.prog 9 #[.pointer (some ⟨b, 0, none⟩)] w5 _ from push_any b g (newX 2) w5 (HK4.out.pm 1 (by omega)) (by simp [newX])).mono ?_
      rintro e w6 ⟨g6, rfl, hM6, hF6, hE6⟩
      have HK6 : Hd _ := HK4.out.pcall (i := 1) (by omega) hM6 hF6 hE6
      clear hM6 hF6 hE6 HK4 c0
      have c0 : w6.cell? ⟨wb, 3, none⟩ = some (.pointer (some ⟨rb1, 0, none⟩)) := by rw [cell_of HK6.out.blk]; rfl
      go_wp2_with fail
      refine (show Calls Try.prog 15 #[.pointer (some ⟨rb1, 0, none⟩)] w6 _ from rpush_any rb1 rg1 (rnewX 2) w6 (HK6.out.rm 1 (by omega)) (by simp [rnewX])).mono ?_
      rintro e w7 ⟨rfl, g7, hM7, hF7, hE7⟩
      have HK7 : Hd _ := HK6.out.rcall (i := 1) (by omega) hM7 hF7 hE7
      clear hM7 hF7 hE7 HK6 c0
      go_wp2_with fail
      refine ⟨⟨2, by simp, by omega, ⟨_, _, _, _, _, _, HK7.out, fun i hi => ?_⟩⟩, by simp⟩
      rcases (show i = 1 ∨ i < 1 by omega) with rfl | hlt
      · exact ⟨rfl, rfl⟩
      · have := HV.out i (by omega)
        have e0 : i = 0 := by omega
        subst e0
        exact this
    · go_wp2_with fail
      go_ret
      refine ⟨wb, rfl, pb, rb, pg, rg, pa, ra, _, _, [], [], HK.out.wd, fun i hi => ?_, by simp, fun p hp => by cases hp⟩
      obtain ⟨e1, e2⟩ := HV.out i hi
      rw [e1, e2]
      exact ⟨(rel_new 2).push, (RB.new 0 2 (by omega)).push⟩

end Go.Proofs.Ytmdlebolmhnhaab
