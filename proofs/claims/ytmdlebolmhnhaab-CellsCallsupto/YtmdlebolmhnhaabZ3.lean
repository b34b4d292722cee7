import Derived.Test.YtmdlebolmhnhaabY7
import Derived.Deep.RegionHeld3
import Derived.Deep.DeepCutAuto
namespace Go.Proofs.Ytmdlebolmhnhaab
open Go.RowKit (wrap32 wrap64)
open Go.Maps (Keyed)
set_option linter.unusedVariables false
set_option linter.unusedSimpArgs false

theorem resA {wb w2 : World} (h : Fr (fun _ => False) (wb.alloc (.cells #[vI 0, vI 0] 28)).drew w2) (x : Val) : ((w2.setCell ⟨wb.heap.size, 0, none⟩ (vI x.1)).setCell ⟨wb.heap.size, 1, none⟩ (vI x.2)).heap[wb.heap.size]? = some (.cells #[vI x.1, vI x.2] 28) ∧ Fr (fun _ => False) wb ((w2.setCell ⟨wb.heap.size, 0, none⟩ (vI x.1)).setCell ⟨wb.heap.size, 1, none⟩ (vI x.2)) := by
  have B : w2.heap[wb.heap.size]? = some (.cells #[vI 0, vI 0] 28) := (h.block wb.heap.size (by simp) (fun h => h)).trans (heap_alloc_last wb _)
  exact ⟨set_of (set_of B 0 (vI x.1)) 1 (vI x.2), Fr.setCell (Fr.setCell ((Fr.alloc (Fr.refl _ wb) _).drew.trans h) _ _ (Or.inr (Nat.le_refl _))) _ _ (Or.inr (Nat.le_refl _))⟩
theorem resA0 {wb w2 : World} (h : Fr (fun _ => False) (wb.alloc (.cells #[vI 0, vI 0] 28)).drew w2) : w2.cell? ⟨wb.heap.size, 0, none⟩ = some (vI 0) ∧ w2.cell? ⟨wb.heap.size, 1, none⟩ = some (vI 0) ∧ w2.frozen? ⟨wb.heap.size, 0, none⟩ = false ∧ w2.frozen? ⟨wb.heap.size, 1, none⟩ = false := by
  have B : w2.heap[wb.heap.size]? = some (.cells #[vI 0, vI 0] 28) := (h.block wb.heap.size (by simp) (fun h => h)).trans (heap_alloc_last wb _)
  exact ⟨by rw [cell_of B]; rfl, by rw [cell_of B]; rfl, frozen_of B 0, frozen_of B 1⟩

set_option maxRecDepth 100000 in
set_option maxHeartbeats 4000000 in
/-- alike: both memories tell what the document's tell. -/
theorem alike_any (w0 w : World) (wb : Nat) (N : Nat) (hN : N ≤ 2000001) (hst : St w0 wb N w) : Calls Try.prog 7 #[ptr wb] w fun e w' => e = .returned (.bool true) ∧ Fr (fun _ => False) w w' := by
  obtain ⟨pb, rb, pg, rg, pa, ra, lv, mv, us, us', h, hR, hU, hP⟩ := hst
  have HR : Hd _ := hR
  have HW : Hd _ := h
  clear h hR hU hP
  go_enter Try.func7, Try.ntmps7
  go_wp2_with fail
  go_loopw [3] (fun v wr => ∃ (k : Nat), v = .int .i64 k ∧ k ≤ 2 ∧ Hd (Fr (fun _ => False) w wr)) (fun v _ => match v with | .int _ q => 2 - q.toNat | _ => 0)
  case atStart => exact ⟨0, rfl, by omega, Fr.refl _ _⟩
  case round =>
    obtain ⟨k, rfl, hk, HF⟩ := hrel
    rcases (show k = 0 ∨ k = 1 ∨ k = 2 by omega) with rfl | rfl | rfl
    · have HWr : Hd _ := HW.out.keep (HF.out.drew)
      obtain ⟨zs, hzs⟩ : ∃ zs, zs = liveX (pa 0) := ⟨_, rfl⟩
      have hzl : zs.length ≤ 3000000 := by rw [hzs]; have := live_len (HR.out 0 (by omega)).1 (HR.out 0 (by omega)).2; omega
      have HZS : Hd _ := hzs
      clear hzs
      have hmK : (pa 0).made ≤ 10000000000000 := by have := ((HR.out 0 (by omega)).1.fine (HR.out 0 (by omega)).2).made; omega
      have hrK : (ra 0).cells.length ≤ 3000000 := by have := (HR.out 0 (by omega)).2.cells; omega
      obtain ⟨c0, c1, c2, c3, -, -⟩ := HWr.out.heads
      go_upto_region 4 with fail
      go_region_held3 (fun w' => w'.cell? ⟨wb, 0, none⟩ = some (ptr (pb 0)) ∧ w'.cell? ⟨wb, 2, none⟩ = some (rptr (rb 0))) (go_keep) ((
        first
          | (go_at_call 20
             refine (show Calls Try.prog 20 #[ptr (pb 0)] wr.drew _ from live_any (pb 0) (pg 0) (pa 0) wr.drew (HWr.out.pm 0 (by omega)) hmK).mono ?_
             rintro e w1 ⟨a, rfl, hra, hF1⟩
             rw [← HZS.out] at hra
             have HA1 : Hd (w1.ownsRow wr.drew.heap.size 3 1 a zs.length (zs.map vI)) := hra
             have HW1 : Hd _ := HWr.out.keep hF1
             have HF1 : Hd _ := HF.out.drew.trans hF1
             obtain ⟨s0, s1, s2, s3, -, -⟩ := HW1.out.heads
             clear hra hF1)
          | (go_at_call 21
             refine (show Calls Try.prog 21 #[rptr (rb 0)] w1 _ from rlive_any (rb 0) (rg 0) (ra 0) w1 (HW1.out.rm 0 (by omega)) (by omega)).mono ?_
             rintro e w2 ⟨b, rfl, hrb, hF2⟩
             rw [(HR.out 0 (by omega)).1.liveV, (HR.out 0 (by omega)).1.liveN, ← HZS.out] at hrb
             have HB2 : Hd (w2.ownsRow w1.heap.size 3 1 b zs.length (zs.map vI)) := hrb
             have HA2 : Hd _ := ownsRow_fr HA1.out hF2 (fun _ _ e => e)
             have HW2 : Hd _ := HW1.out.keep hF2
             have HF2 : Hd _ := HF1.out.trans hF2
             obtain ⟨t0, t1, t2, t3, -, -⟩ := HW2.out.heads
             clear hrb hF2)
          | (go_at_call 19
             refine (show Calls Try.prog 19 #[a, b] w2 _ from eqInts_same a b zs w2 (IntsAt.of_row HA2.out) (IntsAt.of_row HB2.out) (by omega)).mono ?_
             rintro e w3 ⟨rfl, hF3⟩
             have HF3 : Hd _ := HF2.out.trans hF3
             have HW3 : Hd _ := HW2.out.keep hF3
             obtain ⟨v0, v1, v2, v3, -, -⟩ := HW3.out.heads
             clear hF3)))
      clear HF HWr HW1 HW2 HW3 HF1 HF2 HA1 HA2 HB2 c0 c1 c2 c3 s0 s1 s2 s3 t0 t1 t2 t3 v0 v1 v2 v3 HZS
      go_wp2_with fail
      go_loopw [5] (fun v wr => ∃ (j : Nat), v = .int .i64 j ∧ j ≤ (ra 0).cells.length + 2 ∧ Hd (Fr (fun _ => False) w wr)) (fun v _ => match v with | .int _ q => (ra 0).cells.length + 2 - q.toNat | _ => 0)
      case atStart => exact ⟨0, rfl, by omega, HF3.out⟩
      case round =>
        clear HF3
        obtain ⟨j, rfl, hj, HF⟩ := hrel
        have HWr : Hd _ := HW.out.keep HF.out
        obtain ⟨c0, c1, c2, c3, -, -⟩ := HWr.out.heads
        obtain ⟨-, -, r2⟩ := (HWr.out.rm 0 (by omega)).heads
        obtain ⟨ca, cc, hcv, -, -⟩ := row_shape (HWr.out.rm 0 (by omega)).cls
        rw [hcv] at r2
        clear hcv
        by_cases hlt : j < (ra 0).cells.length + 2
        · have dj : decide ((j : Int) ≤ ((ra 0).cells.length : Int) + 1) = true := by simp; omega
          go_wp2_with fail
          clear c0 c1 c2 c3 r2 dj
          go_loopw [6] (fun v wr => ∃ (m : Nat), v = .int .i64 ((m : Int) - 1) ∧ m ≤ 10 ∧ Hd (Fr (fun _ => False) w wr)) (fun v _ => match v with | .int _ q => (9 - q).toNat | _ => 0)
          case atStart => exact ⟨0, rfl, by omega, HF.out⟩
          case round =>
            clear HF HWr
            obtain ⟨m, rfl, hm, HF⟩ := hrel
            by_cases hmt : m < 10
            · have dm : decide ((m : Int) - 1 ≤ 8) = true := by simp; omega
              obtain ⟨lx, hlx⟩ : ∃ lx, loadX (pa 0) (2, (j : Int)) ((m : Int) - 1) = lx := ⟨_, rfl⟩
              have HLX : Hd (loadX (pa 0) (2, (j : Int)) ((m : Int) - 1) = lx) := hlx
              have HRX : Hd (rloadX (ra 0) (2, (j : Int)) ((m : Int) - 1) = lx) := by unfold Hd; rw [← (HR.out 0 (by omega)).1.load]; exact hlx
              clear hlx
              obtain ⟨y, er⟩ := lx
              have hFv : Fr (fun _ => False) w (wr.alloc (.cells #[vI 2, vI (j : Int)] 28)) := Fr.alloc HF.out _
              have HV1 : Hd _ := heap_alloc_last wr (.cells #[vI 2, vI (j : Int)] 28)
              have HF1 : Hd _ := hFv
              have HW1 : Hd _ := HW.out.keep hFv
              clear hFv HF
              go_upto_region 14 with fail
              obtain ⟨vb, hvb⟩ : ∃ vb, vb = wr.heap.size := ⟨_, rfl⟩
              rw [← hvb] at HV1 ⊢
              generalize wr.alloc (.cells #[vI 2, vI (j : Int)] 28) = w1 at *
              clear hvb dm
              have hvl : vb < w1.heap.size := heap_lt HV1.out
              have hwl : wb < w1.heap.size := heap_lt HW1.out.blk
              have ne1 : w1.heap.size ≠ vb := by omega
              have ne2 : w1.heap.size ≠ wb := by omega
              obtain ⟨c0, c1, c2, c3, -, -⟩ := HW1.out.heads
              have m0 : w1.cell? ⟨vb, 0, none⟩ = some (vI 2) := by rw [cell_of HV1.out]; rfl
              have m1 : w1.cell? ⟨vb, 1, none⟩ = some (vI (j : Int)) := by rw [cell_of HV1.out]; rfl
              go_cut [8, 9] (fun x8 x9 wx => ∃ ab : Nat, x8 = .pointer (some ⟨ab, 0, none⟩) ∧ x9 = vI er ∧ Hd (wx.heap[ab]? = some (.cells #[vI y.1, vI y.2] 28)) ∧ Hd (Fr (fun _ => False) w1 wx))
              case first =>
                go_region_held3 (fun w' => w'.cell? ⟨wb, 0, none⟩ = some (ptr (pb 0)) ∧ w'.cell? ⟨vb, 0, none⟩ = some (vI 2) ∧ w'.cell? ⟨vb, 1, none⟩ = some (vI (j : Int))) (go_keep) ((
                  go_at_call 12
                  first
                    | (refine (show Calls Try.prog 12 #[ptr (pb 0), vv (2, (j : Int)), vI ((m : Int) - 1)] w1.drew _ from load_any (pb 0) (pg 0) (pa 0) (2, (j : Int)) ((m : Int) - 1) w1.drew (HW1.out.pm 0 (by omega)).drew (by omega)).mono ?_
                       rintro e w2 ⟨rfl, hF2⟩
                       rw [show loadX (pa 0) (2, (j : Int)) ((m : Int) - 1) = (y, er) from HLX.out]
                       have hG2 : Fr (fun _ => False) w1 w2 := (Fr.drew (Fr.refl _ w1)).trans hF2
                       have s0 := (hG2.cell hwl (fun h => h)).trans c0
                       have s1 := (hG2.cell hvl (fun h => h)).trans m0
                       have s2 := (hG2.cell hvl (fun h => h)).trans m1
                       have HG2 : Hd (Fr (fun _ => False) w1 w2) := hG2
                       clear hF2 hG2)
                    | (refine (show Calls Try.prog 12 #[ptr (pb 0), vv (2, (j : Int)), vI ((m : Int) - 1)] (w1.alloc (.cells #[vI 0, vI 0] 28)).drew _ from load_any (pb 0) (pg 0) (pa 0) (2, (j : Int)) ((m : Int) - 1) _ ((HW1.out.pm 0 (by omega)).alloc _).drew (by omega)).mono ?_
                       rintro e w2 ⟨rfl, hF2⟩
                       rw [show loadX (pa 0) (2, (j : Int)) ((m : Int) - 1) = (y, er) from HLX.out]
                       have hG2 : Fr (fun _ => False) w1 w2 := ((Fr.alloc (Fr.refl _ w1) _).drew).trans hF2
                       have s0 := (hG2.cell hwl (fun h => h)).trans c0
                       have s1 := (hG2.cell hvl (fun h => h)).trans m0
                       have s2 := (hG2.cell hvl (fun h => h)).trans m1
                       obtain ⟨y0, y1, z0, z1⟩ := resA0 hF2
                       have HF2 : Hd (Fr (fun _ => False) (w1.alloc (.cells #[vI 0, vI 0] 28)).drew w2) := hF2
                       clear hF2 hG2)))
                all_goals
                  go_wp2_with fail
                  go_meet
                  first
                    | exact ⟨_, rfl, rfl, heap_alloc_last w2 _, Fr.alloc HG2.out _⟩
                    | exact ⟨_, rfl, rfl, (resA HF2.out y).1, (resA HF2.out y).2⟩
              case rest =>
                obtain ⟨ab, rfl, rfl, HA2, HF2⟩ := hcut
                have HW2 : Hd _ := HW1.out.keep HF2.out
                have HV2 : Hd _ := (HF2.out.block vb hvl (fun e => e)).trans HV1.out
                have HFw : Hd _ := HF1.out.trans HF2.out
                clear HF1 HW1 HV1 HF2 c0 c1 c2 c3 m0 m1 ne1 ne2 hvl hwl
                have hvl : vb < wc.heap.size := heap_lt HV2.out
                have hwl : wb < wc.heap.size := heap_lt HW2.out.blk
                have ne1 : wc.heap.size ≠ vb := by omega
                have ne2 : wc.heap.size ≠ wb := by omega
                obtain ⟨c0, c1, c2, c3, -, -⟩ := HW2.out.heads
                have m0 : wc.cell? ⟨vb, 0, none⟩ = some (vI 2) := by rw [cell_of HV2.out]; rfl
                have m1 : wc.cell? ⟨vb, 1, none⟩ = some (vI (j : Int)) := by rw [cell_of HV2.out]; rfl
                go_upto_region 15 with fail
                go_cut [10, 11] (fun x8 x9 wx => ∃ bb : Nat, x8 = .pointer (some ⟨bb, 0, none⟩) ∧ x9 = vI er ∧ Hd (wx.heap[bb]? = some (.cells #[vI y.1, vI y.2] 28)) ∧ Hd (Fr (fun _ => False) wc wx))
                case first =>
                  go_region_held3 (fun w' => w'.cell? ⟨wb, 2, none⟩ = some (rptr (rb 0)) ∧ w'.cell? ⟨vb, 0, none⟩ = some (vI 2) ∧ w'.cell? ⟨vb, 1, none⟩ = some (vI (j : Int))) (go_keep) ((
                    go_at_call 22
                    first
                      | (refine (show Calls Try.prog 22 #[rptr (rb 0), vv (2, (j : Int)), vI ((m : Int) - 1)] wc.drew _ from rload_any (rb 0) (rg 0) (ra 0) (2, (j : Int)) ((m : Int) - 1) wc.drew ((HW2.out.rm 0 (by omega)).keep (Fr.drew (Fr.refl _ wc))) (by omega)).mono ?_
                         rintro e w2 ⟨rfl, hF2⟩
                         rw [show rloadX (ra 0) (2, (j : Int)) ((m : Int) - 1) = (y, er) from HRX.out]
                         have hG2 : Fr (fun _ => False) wc w2 := (Fr.drew (Fr.refl _ wc)).trans hF2
                         have s0 := (hG2.cell hwl (fun h => h)).trans c2
                         have s1 := (hG2.cell hvl (fun h => h)).trans m0
                         have s2 := (hG2.cell hvl (fun h => h)).trans m1
                         have HG2 : Hd (Fr (fun _ => False) wc w2) := hG2
                         clear hF2 hG2)
                      | (refine (show Calls Try.prog 22 #[rptr (rb 0), vv (2, (j : Int)), vI ((m : Int) - 1)] (wc.alloc (.cells #[vI 0, vI 0] 28)).drew _ from rload_any (rb 0) (rg 0) (ra 0) (2, (j : Int)) ((m : Int) - 1) _ ((HW2.out.rm 0 (by omega)).keep (Fr.alloc (Fr.refl _ wc) _).drew) (by omega)).mono ?_
                         rintro e w2 ⟨rfl, hF2⟩
                         rw [show rloadX (ra 0) (2, (j : Int)) ((m : Int) - 1) = (y, er) from HRX.out]
                         have hG2 : Fr (fun _ => False) wc w2 := ((Fr.alloc (Fr.refl _ wc) _).drew).trans hF2
                         have s0 := (hG2.cell hwl (fun h => h)).trans c2
                         have s1 := (hG2.cell hvl (fun h => h)).trans m0
                         have s2 := (hG2.cell hvl (fun h => h)).trans m1
                         obtain ⟨y0, y1, z0, z1⟩ := resA0 hF2
                         have HF2 : Hd (Fr (fun _ => False) (wc.alloc (.cells #[vI 0, vI 0] 28)).drew w2) := hF2
                         clear hF2 hG2)))
                  all_goals
                    go_wp2_with fail
                    go_meet
                    first
                      | exact ⟨_, rfl, rfl, heap_alloc_last w2 _, Fr.alloc HG2.out _⟩
                      | exact ⟨_, rfl, rfl, (resA HF2.out y).1, (resA HF2.out y).2⟩
                case rest =>
                  obtain ⟨bb, rfl, rfl, HB3, HF3⟩ := hcut
                  have HA3 : Hd _ := (HF3.out.block ab (heap_lt HA2.out) (fun e => e)).trans HA2.out
                  have HFe : Hd _ := HFw.out.trans HF3.out
                  clear c0 c1 c2 c3 m0 m1 ne1 ne2 hvl hwl HF3 HFw HW2 HV2 HA2
                  have a0 : wc.cell? ⟨ab, 0, none⟩ = some (vI y.1) := by rw [cell_of HA3.out]; rfl
                  have a1 : wc.cell? ⟨ab, 1, none⟩ = some (vI y.2) := by rw [cell_of HA3.out]; rfl
                  have b0 : wc.cell? ⟨bb, 0, none⟩ = some (vI y.1) := by rw [cell_of HB3.out]; rfl
                  have b1 : wc.cell? ⟨bb, 1, none⟩ = some (vI y.2) := by rw [cell_of HB3.out]; rfl
                  go_wp2_with fail
                  refine ⟨⟨m + 1, by simp; try omega, by omega, HFe.out⟩, by simp; try omega⟩
            · have hme : m = 10 := by omega
              subst hme
              have dm : decide (((10 : Nat) : Int) - 1 ≤ 8) = false := by decide
              go_wp2_with fail
              refine ⟨⟨j + 1, by simp; try omega, by omega, HF.out⟩, by simp; try omega⟩
        · have hje : j = (ra 0).cells.length + 2 := by omega
          have dj : decide ((j : Int) ≤ ((ra 0).cells.length : Int) + 1) = false := by apply decide_eq_false; omega
          clear hje hlt hj
          go_wp2_with fail
          clear c0 c1 c2 c3 r2 dj HWr
          go_loopw [12] (fun v wr => ∃ (m : Nat), v = .int .i64 ((m : Int) - 1) ∧ m ≤ 18 ∧ Hd (Fr (fun _ => False) w wr)) (fun v _ => match v with | .int _ q => (17 - q).toNat | _ => 0)
          case atStart => exact ⟨0, rfl, by omega, HF.out⟩
          case round =>
            clear HF
            obtain ⟨m, rfl, hm, HF⟩ := hrel
            by_cases hmt : m < 18
            · have dm : decide ((m : Int) - 1 ≤ 16) = true := by simp; omega
              obtain ⟨lx, hlx⟩ : ∃ lx, globalX (pa 0) ((m : Int) - 1) = lx := ⟨_, rfl⟩
              have HLX : Hd (globalX (pa 0) ((m : Int) - 1) = lx) := hlx
              have HRX : Hd (rglobalX (ra 0) ((m : Int) - 1) = lx) := by unfold Hd; rw [← (HR.out 0 (by omega)).1.global]; exact hlx
              clear hlx
              obtain ⟨y, er⟩ := lx
              have hgl : (ra 0).gl.length ≤ 16 := (HR.out 0 (by omega)).2.gl
              have HWr : Hd _ := HW.out.keep HF.out
              obtain ⟨c0, c1, c2, c3, -, -⟩ := HWr.out.heads
              go_wp2_with fail
              refine (show Calls Try.prog 23 #[ptr (pb 0), vI ((m : Int) - 1)] wr _ from global_any (pb 0) (pg 0) (pa 0) ((m : Int) - 1) wr (HWr.out.pm 0 (by omega))).mono ?_
              rintro e w2 ⟨rfl, hF2⟩
              rw [show globalX (pa 0) ((m : Int) - 1) = (y, er) from HLX.out]
              have HA2 : Hd _ := heap_alloc_last w2 (.cells #[vI y.1, vI y.2] 28)
              have HF2 : Hd _ := HF.out.trans (Fr.alloc hF2 (.cells #[vI y.1, vI y.2] 28))
              have HW2 : Hd _ := HW.out.keep HF2.out
              clear hF2 HWr c0 c1 c2 c3 HF
              obtain ⟨c0, c1, c2, c3, -, -⟩ := HW2.out.heads
              go_wp2_with fail
              clear c0 c1 c2 c3
              obtain ⟨ab, hab⟩ : ∃ ab, ab = w2.heap.size := ⟨_, rfl⟩
              rw [← hab] at HA2 ⊢
              generalize w2.alloc (.cells #[vI y.1, vI y.2] 28) = w3 at *
              clear hab
              refine (show Calls Try.prog 24 #[rptr (rb 0), vI ((m : Int) - 1)] w3 _ from rglobal_any (rb 0) (rg 0) (ra 0) ((m : Int) - 1) w3 (HW2.out.rm 0 (by omega)) hgl).mono ?_
              rintro e w4 ⟨rfl, hF4⟩
              rw [show rglobalX (ra 0) ((m : Int) - 1) = (y, er) from HRX.out]
              have hFb : Fr (fun _ => False) w3 (w4.alloc (.cells #[vI y.1, vI y.2] 28)) := Fr.alloc hF4 _
              have V5 := (hFb.block _ (heap_lt HA2.out) (fun h => h)).trans HA2.out
              have HF5 : Hd _ := HF2.out.trans hFb
              have a0 : (w4.alloc (.cells #[vI y.1, vI y.2] 28)).cell? ⟨ab, 0, none⟩ = some (vI y.1) := by rw [cell_of V5]; rfl
              have a1 : (w4.alloc (.cells #[vI y.1, vI y.2] 28)).cell? ⟨ab, 1, none⟩ = some (vI y.2) := by rw [cell_of V5]; rfl
              clear hF4 hFb V5 HW2 HF2 HA2
              go_wp2_with fail
              refine ⟨⟨m + 1, by simp; try omega, by omega, HF5.out⟩, by simp; try omega⟩
            · have hme : m = 18 := by omega
              subst hme
              have dm : decide (((18 : Nat) : Int) - 1 ≤ 16) = false := by decide
              go_wp2_with fail
              refine ⟨⟨1, by simp; try omega, by omega, HF.out⟩, by simp; try omega⟩
    · have HWr : Hd _ := HW.out.keep (HF.out.drew)
      obtain ⟨zs, hzs⟩ : ∃ zs, zs = liveX (pa 1) := ⟨_, rfl⟩
      have hzl : zs.length ≤ 3000000 := by rw [hzs]; have := live_len (HR.out 1 (by omega)).1 (HR.out 1 (by omega)).2; omega
      have HZS : Hd _ := hzs
      clear hzs
      have hmK : (pa 1).made ≤ 10000000000000 := by have := ((HR.out 1 (by omega)).1.fine (HR.out 1 (by omega)).2).made; omega
      have hrK : (ra 1).cells.length ≤ 3000000 := by have := (HR.out 1 (by omega)).2.cells; omega
      obtain ⟨c0, c1, c2, c3, -, -⟩ := HWr.out.heads
      go_upto_region 4 with fail
      go_region_held3 (fun w' => w'.cell? ⟨wb, 1, none⟩ = some (ptr (pb 1)) ∧ w'.cell? ⟨wb, 3, none⟩ = some (rptr (rb 1))) (go_keep) ((
        first
          | (go_at_call 20
             refine (show Calls Try.prog 20 #[ptr (pb 1)] wr.drew _ from live_any (pb 1) (pg 1) (pa 1) wr.drew (HWr.out.pm 1 (by omega)) hmK).mono ?_
             rintro e w1 ⟨a, rfl, hra, hF1⟩
             rw [← HZS.out] at hra
             have HA1 : Hd (w1.ownsRow wr.drew.heap.size 3 1 a zs.length (zs.map vI)) := hra
             have HW1 : Hd _ := HWr.out.keep hF1
             have HF1 : Hd _ := HF.out.drew.trans hF1
             obtain ⟨s0, s1, s2, s3, -, -⟩ := HW1.out.heads
             clear hra hF1)
          | (go_at_call 21
             refine (show Calls Try.prog 21 #[rptr (rb 1)] w1 _ from rlive_any (rb 1) (rg 1) (ra 1) w1 (HW1.out.rm 1 (by omega)) (by omega)).mono ?_
             rintro e w2 ⟨b, rfl, hrb, hF2⟩
             rw [(HR.out 1 (by omega)).1.liveV, (HR.out 1 (by omega)).1.liveN, ← HZS.out] at hrb
             have HB2 : Hd (w2.ownsRow w1.heap.size 3 1 b zs.length (zs.map vI)) := hrb
             have HA2 : Hd _ := ownsRow_fr HA1.out hF2 (fun _ _ e => e)
             have HW2 : Hd _ := HW1.out.keep hF2
             have HF2 : Hd _ := HF1.out.trans hF2
             obtain ⟨t0, t1, t2, t3, -, -⟩ := HW2.out.heads
             clear hrb hF2)
          | (go_at_call 19
             refine (show Calls Try.prog 19 #[a, b] w2 _ from eqInts_same a b zs w2 (IntsAt.of_row HA2.out) (IntsAt.of_row HB2.out) (by omega)).mono ?_
             rintro e w3 ⟨rfl, hF3⟩
             have HF3 : Hd _ := HF2.out.trans hF3
             have HW3 : Hd _ := HW2.out.keep hF3
             obtain ⟨v0, v1, v2, v3, -, -⟩ := HW3.out.heads
             clear hF3)))
      clear HF HWr HW1 HW2 HW3 HF1 HF2 HA1 HA2 HB2 c0 c1 c2 c3 s0 s1 s2 s3 t0 t1 t2 t3 v0 v1 v2 v3 HZS
      go_wp2_with fail
      go_loopw [5] (fun v wr => ∃ (j : Nat), v = .int .i64 j ∧ j ≤ (ra 1).cells.length + 2 ∧ Hd (Fr (fun _ => False) w wr)) (fun v _ => match v with | .int _ q => (ra 1).cells.length + 2 - q.toNat | _ => 0)
      case atStart => exact ⟨0, rfl, by omega, HF3.out⟩
      case round =>
        clear HF3
        obtain ⟨j, rfl, hj, HF⟩ := hrel
        have HWr : Hd _ := HW.out.keep HF.out
        obtain ⟨c0, c1, c2, c3, -, -⟩ := HWr.out.heads
        obtain ⟨-, -, r2⟩ := (HWr.out.rm 1 (by omega)).heads
        obtain ⟨ca, cc, hcv, -, -⟩ := row_shape (HWr.out.rm 1 (by omega)).cls
        rw [hcv] at r2
        clear hcv
        by_cases hlt : j < (ra 1).cells.length + 2
        · have dj : decide ((j : Int) ≤ ((ra 1).cells.length : Int) + 1) = true := by simp; omega
          go_wp2_with fail
          clear c0 c1 c2 c3 r2 dj
          go_loopw [6] (fun v wr => ∃ (m : Nat), v = .int .i64 ((m : Int) - 1) ∧ m ≤ 10 ∧ Hd (Fr (fun _ => False) w wr)) (fun v _ => match v with | .int _ q => (9 - q).toNat | _ => 0)
          case atStart => exact ⟨0, rfl, by omega, HF.out⟩
          case round =>
            clear HF HWr
            obtain ⟨m, rfl, hm, HF⟩ := hrel
            by_cases hmt : m < 10
            · have dm : decide ((m : Int) - 1 ≤ 8) = true := by simp; omega
              obtain ⟨lx, hlx⟩ : ∃ lx, loadX (pa 1) (2, (j : Int)) ((m : Int) - 1) = lx := ⟨_, rfl⟩
              have HLX : Hd (loadX (pa 1) (2, (j : Int)) ((m : Int) - 1) = lx) := hlx
              have HRX : Hd (rloadX (ra 1) (2, (j : Int)) ((m : Int) - 1) = lx) := by unfold Hd; rw [← (HR.out 1 (by omega)).1.load]; exact hlx
              clear hlx
              obtain ⟨y, er⟩ := lx
              have hFv : Fr (fun _ => False) w (wr.alloc (.cells #[vI 2, vI (j : Int)] 28)) := Fr.alloc HF.out _
              have HV1 : Hd _ := heap_alloc_last wr (.cells #[vI 2, vI (j : Int)] 28)
              have HF1 : Hd _ := hFv
              have HW1 : Hd _ := HW.out.keep hFv
              clear hFv HF
              go_upto_region 14 with fail
              obtain ⟨vb, hvb⟩ : ∃ vb, vb = wr.heap.size := ⟨_, rfl⟩
              rw [← hvb] at HV1 ⊢
              generalize wr.alloc (.cells #[vI 2, vI (j : Int)] 28) = w1 at *
              clear hvb dm
              have hvl : vb < w1.heap.size := heap_lt HV1.out
              have hwl : wb < w1.heap.size := heap_lt HW1.out.blk
              have ne1 : w1.heap.size ≠ vb := by omega
              have ne2 : w1.heap.size ≠ wb := by omega
              obtain ⟨c0, c1, c2, c3, -, -⟩ := HW1.out.heads
              have m0 : w1.cell? ⟨vb, 0, none⟩ = some (vI 2) := by rw [cell_of HV1.out]; rfl
              have m1 : w1.cell? ⟨vb, 1, none⟩ = some (vI (j : Int)) := by rw [cell_of HV1.out]; rfl
              go_cut [8, 9] (fun x8 x9 wx => ∃ ab : Nat, x8 = .pointer (some ⟨ab, 0, none⟩) ∧ x9 = vI er ∧ Hd (wx.heap[ab]? = some (.cells #[vI y.1, vI y.2] 28)) ∧ Hd (Fr (fun _ => False) w1 wx))
              case first =>
                go_region_held3 (fun w' => w'.cell? ⟨wb, 1, none⟩ = some (ptr (pb 1)) ∧ w'.cell? ⟨vb, 0, none⟩ = some (vI 2) ∧ w'.cell? ⟨vb, 1, none⟩ = some (vI (j : Int))) (go_keep) ((
                  go_at_call 12
                  first
                    | (refine (show Calls Try.prog 12 #[ptr (pb 1), vv (2, (j : Int)), vI ((m : Int) - 1)] w1.drew _ from load_any (pb 1) (pg 1) (pa 1) (2, (j : Int)) ((m : Int) - 1) w1.drew (HW1.out.pm 1 (by omega)).drew (by omega)).mono ?_
                       rintro e w2 ⟨rfl, hF2⟩
                       rw [show loadX (pa 1) (2, (j : Int)) ((m : Int) - 1) = (y, er) from HLX.out]
                       have hG2 : Fr (fun _ => False) w1 w2 := (Fr.drew (Fr.refl _ w1)).trans hF2
                       have s0 := (hG2.cell hwl (fun h => h)).trans c1
                       have s1 := (hG2.cell hvl (fun h => h)).trans m0
                       have s2 := (hG2.cell hvl (fun h => h)).trans m1
                       have HG2 : Hd (Fr (fun _ => False) w1 w2) := hG2
                       clear hF2 hG2)
                    | (refine (show Calls Try.prog 12 #[ptr (pb 1), vv (2, (j : Int)), vI ((m : Int) - 1)] (w1.alloc (.cells #[vI 0, vI 0] 28)).drew _ from load_any (pb 1) (pg 1) (pa 1) (2, (j : Int)) ((m : Int) - 1) _ ((HW1.out.pm 1 (by omega)).alloc _).drew (by omega)).mono ?_
                       rintro e w2 ⟨rfl, hF2⟩
                       rw [show loadX (pa 1) (2, (j : Int)) ((m : Int) - 1) = (y, er) from HLX.out]
                       have hG2 : Fr (fun _ => False) w1 w2 := ((Fr.alloc (Fr.refl _ w1) _).drew).trans hF2
                       have s0 := (hG2.cell hwl (fun h => h)).trans c1
                       have s1 := (hG2.cell hvl (fun h => h)).trans m0
                       have s2 := (hG2.cell hvl (fun h => h)).trans m1
                       obtain ⟨y0, y1, z0, z1⟩ := resA0 hF2
                       have HF2 : Hd (Fr (fun _ => False) (w1.alloc (.cells #[vI 0, vI 0] 28)).drew w2) := hF2
                       clear hF2 hG2)))
                all_goals
                  go_wp2_with fail
                  go_meet
                  first
                    | exact ⟨_, rfl, rfl, heap_alloc_last w2 _, Fr.alloc HG2.out _⟩
                    | exact ⟨_, rfl, rfl, (resA HF2.out y).1, (resA HF2.out y).2⟩
              case rest =>
                obtain ⟨ab, rfl, rfl, HA2, HF2⟩ := hcut
                have HW2 : Hd _ := HW1.out.keep HF2.out
                have HV2 : Hd _ := (HF2.out.block vb hvl (fun e => e)).trans HV1.out
                have HFw : Hd _ := HF1.out.trans HF2.out
                clear HF1 HW1 HV1 HF2 c0 c1 c2 c3 m0 m1 ne1 ne2 hvl hwl
                have hvl : vb < wc.heap.size := heap_lt HV2.out
                have hwl : wb < wc.heap.size := heap_lt HW2.out.blk
                have ne1 : wc.heap.size ≠ vb := by omega
                have ne2 : wc.heap.size ≠ wb := by omega
                obtain ⟨c0, c1, c2, c3, -, -⟩ := HW2.out.heads
                have m0 : wc.cell? ⟨vb, 0, none⟩ = some (vI 2) := by rw [cell_of HV2.out]; rfl
                have m1 : wc.cell? ⟨vb, 1, none⟩ = some (vI (j : Int)) := by rw [cell_of HV2.out]; rfl
                go_upto_region 15 with fail
                go_cut [10, 11] (fun x8 x9 wx => ∃ bb : Nat, x8 = .pointer (some ⟨bb, 0, none⟩) ∧ x9 = vI er ∧ Hd (wx.heap[bb]? = some (.cells #[vI y.1, vI y.2] 28)) ∧ Hd (Fr (fun _ => False) wc wx))
                case first =>
                  go_region_held3 (fun w' => w'.cell? ⟨wb, 3, none⟩ = some (rptr (rb 1)) ∧ w'.cell? ⟨vb, 0, none⟩ = some (vI 2) ∧ w'.cell? ⟨vb, 1, none⟩ = some (vI (j : Int))) (go_keep) ((
                    go_at_call 22
                    first
                      | (refine (show Calls Try.prog 22 #[rptr (rb 1), vv (2, (j : Int)), vI ((m : Int) - 1)] wc.drew _ from rload_any (rb 1) (rg 1) (ra 1) (2, (j : Int)) ((m : Int) - 1) wc.drew ((HW2.out.rm 1 (by omega)).keep (Fr.drew (Fr.refl _ wc))) (by omega)).mono ?_
                         rintro e w2 ⟨rfl, hF2⟩
                         rw [show rloadX (ra 1) (2, (j : Int)) ((m : Int) - 1) = (y, er) from HRX.out]
                         have hG2 : Fr (fun _ => False) wc w2 := (Fr.drew (Fr.refl _ wc)).trans hF2
                         have s0 := (hG2.cell hwl (fun h => h)).trans c3
                         have s1 := (hG2.cell hvl (fun h => h)).trans m0
                         have s2 := (hG2.cell hvl (fun h => h)).trans m1
                         have HG2 : Hd (Fr (fun _ => False) wc w2) := hG2
                         clear hF2 hG2)
                      | (refine (show Calls Try.prog 22 #[rptr (rb 1), vv (2, (j : Int)), vI ((m : Int) - 1)] (wc.alloc (.cells #[vI 0, vI 0] 28)).drew _ from rload_any (rb 1) (rg 1) (ra 1) (2, (j : Int)) ((m : Int) - 1) _ ((HW2.out.rm 1 (by omega)).keep (Fr.alloc (Fr.refl _ wc) _).drew) (by omega)).mono ?_
                         rintro e w2 ⟨rfl, hF2⟩
                         rw [show rloadX (ra 1) (2, (j : Int)) ((m : Int) - 1) = (y, er) from HRX.out]
                         have hG2 : Fr (fun _ => False) wc w2 := ((Fr.alloc (Fr.refl _ wc) _).drew).trans hF2
                         have s0 := (hG2.cell hwl (fun h => h)).trans c3
                         have s1 := (hG2.cell hvl (fun h => h)).trans m0
                         have s2 := (hG2.cell hvl (fun h => h)).trans m1
                         obtain ⟨y0, y1, z0, z1⟩ := resA0 hF2
                         have HF2 : Hd (Fr (fun _ => False) (wc.alloc (.cells #[vI 0, vI 0] 28)).drew w2) := hF2
                         clear hF2 hG2)))
                  all_goals
                    go_wp2_with fail
                    go_meet
                    first
                      | exact ⟨_, rfl, rfl, heap_alloc_last w2 _, Fr.alloc HG2.out _⟩
                      | exact ⟨_, rfl, rfl, (resA HF2.out y).1, (resA HF2.out y).2⟩
                case rest =>
                  obtain ⟨bb, rfl, rfl, HB3, HF3⟩ := hcut
                  have HA3 : Hd _ := (HF3.out.block ab (heap_lt HA2.out) (fun e => e)).trans HA2.out
                  have HFe : Hd _ := HFw.out.trans HF3.out
                  clear c0 c1 c2 c3 m0 m1 ne1 ne2 hvl hwl HF3 HFw HW2 HV2 HA2
                  have a0 : wc.cell? ⟨ab, 0, none⟩ = some (vI y.1) := by rw [cell_of HA3.out]; rfl
                  have a1 : wc.cell? ⟨ab, 1, none⟩ = some (vI y.2) := by rw [cell_of HA3.out]; rfl
                  have b0 : wc.cell? ⟨bb, 0, none⟩ = some (vI y.1) := by rw [cell_of HB3.out]; rfl
                  have b1 : wc.cell? ⟨bb, 1, none⟩ = some (vI y.2) := by rw [cell_of HB3.out]; rfl
                  go_wp2_with fail
                  refine ⟨⟨m + 1, by simp; try omega, by omega, HFe.out⟩, by simp; try omega⟩
            · have hme : m = 10 := by omega
              subst hme
              have dm : decide (((10 : Nat) : Int) - 1 ≤ 8) = false := by decide
              go_wp2_with fail
              refine ⟨⟨j + 1, by simp; try omega, by omega, HF.out⟩, by simp; try omega⟩
        · have hje : j = (ra 1).cells.length + 2 := by omega
          have dj : decide ((j : Int) ≤ ((ra 1).cells.length : Int) + 1) = false := by apply decide_eq_false; omega
          clear hje hlt hj
          go_wp2_with fail
          clear c0 c1 c2 c3 r2 dj HWr
          go_loopw [12] (fun v wr => ∃ (m : Nat), v = .int .i64 ((m : Int) - 1) ∧ m ≤ 18 ∧ Hd (Fr (fun _ => False) w wr)) (fun v _ => match v with | .int _ q => (17 - q).toNat | _ => 0)
          case atStart => exact ⟨0, rfl, by omega, HF.out⟩
          case round =>
            clear HF
            obtain ⟨m, rfl, hm, HF⟩ := hrel
            by_cases hmt : m < 18
            · have dm : decide ((m : Int) - 1 ≤ 16) = true := by simp; omega
              obtain ⟨lx, hlx⟩ : ∃ lx, globalX (pa 1) ((m : Int) - 1) = lx := ⟨_, rfl⟩
              have HLX : Hd (globalX (pa 1) ((m : Int) - 1) = lx) := hlx
              have HRX : Hd (rglobalX (ra 1) ((m : Int) - 1) = lx) := by unfold Hd; rw [← (HR.out 1 (by omega)).1.global]; exact hlx
              clear hlx
              obtain ⟨y, er⟩ := lx
              have hgl : (ra 1).gl.length ≤ 16 := (HR.out 1 (by omega)).2.gl
              have HWr : Hd _ := HW.out.keep HF.out
              obtain ⟨c0, c1, c2, c3, -, -⟩ := HWr.out.heads
              go_wp2_with fail
              refine (show Calls Try.prog 23 #[ptr (pb 1), vI ((m : Int) - 1)] wr _ from global_any (pb 1) (pg 1) (pa 1) ((m : Int) - 1) wr (HWr.out.pm 1 (by omega))).mono ?_
              rintro e w2 ⟨rfl, hF2⟩
              rw [show globalX (pa 1) ((m : Int) - 1) = (y, er) from HLX.out]
              have HA2 : Hd _ := heap_alloc_last w2 (.cells #[vI y.1, vI y.2] 28)
              have HF2 : Hd _ := HF.out.trans (Fr.alloc hF2 (.cells #[vI y.1, vI y.2] 28))
              have HW2 : Hd _ := HW.out.keep HF2.out
              clear hF2 HWr c0 c1 c2 c3 HF
              obtain ⟨c0, c1, c2, c3, -, -⟩ := HW2.out.heads
              go_wp2_with fail
              clear c0 c1 c2 c3
              obtain ⟨ab, hab⟩ : ∃ ab, ab = w2.heap.size := ⟨_, rfl⟩
              rw [← hab] at HA2 ⊢
              generalize w2.alloc (.cells #[vI y.1, vI y.2] 28) = w3 at *
              clear hab
              refine (show Calls Try.prog 24 #[rptr (rb 1), vI ((m : Int) - 1)] w3 _ from rglobal_any (rb 1) (rg 1) (ra 1) ((m : Int) - 1) w3 (HW2.out.rm 1 (by omega)) hgl).mono ?_
              rintro e w4 ⟨rfl, hF4⟩
              rw [show rglobalX (ra 1) ((m : Int) - 1) = (y, er) from HRX.out]
              have hFb : Fr (fun _ => False) w3 (w4.alloc (.cells #[vI y.1, vI y.2] 28)) := Fr.alloc hF4 _
              have V5 := (hFb.block _ (heap_lt HA2.out) (fun h => h)).trans HA2.out
              have HF5 : Hd _ := HF2.out.trans hFb
              have a0 : (w4.alloc (.cells #[vI y.1, vI y.2] 28)).cell? ⟨ab, 0, none⟩ = some (vI y.1) := by rw [cell_of V5]; rfl
              have a1 : (w4.alloc (.cells #[vI y.1, vI y.2] 28)).cell? ⟨ab, 1, none⟩ = some (vI y.2) := by rw [cell_of V5]; rfl
              clear hF4 hFb V5 HW2 HF2 HA2
              go_wp2_with fail
              refine ⟨⟨m + 1, by simp; try omega, by omega, HF5.out⟩, by simp; try omega⟩
            · have hme : m = 18 := by omega
              subst hme
              have dm : decide (((18 : Nat) : Int) - 1 ≤ 16) = false := by decide
              go_wp2_with fail
              refine ⟨⟨2, by simp; try omega, by omega, HF.out⟩, by simp; try omega⟩
    · go_wp2_with fail
      go_ret
      exact ⟨rfl, HF.out⟩

end Go.Proofs.Ytmdlebolmhnhaab
