import Derived.Test.YtlmlmhinbkcpoaaGreatDoorQEpJ
namespace Go.Proofs.YtlmlmhinbkcpoaaGreatDoor
open Go.RowKit (wrap32 wrap64)
set_option linter.unusedVariables false
set_option linter.unusedSimpArgs false
set_option maxRecDepth 100000
set_option maxHeartbeats 8000000
theorem fedges_any (G : Int) (fv : Value) (fs : List PF) (F : Int) (sv : Value) (ss : List PS) (w : World) (h1 : FA w fv fs) (h2 : SsA w sv ss) (b1 : FineP fs) (b2 : FineS ss) (hT : Tab w) (hR : RowsA w) :
    Calls Tryz.prog 3 #[.agg #[vI G, fv, vI F, sv]] w fun e w' => e = .returned (.bool true) ∧ Fr (fun _ => False) w w' := by
  obtain ⟨E, z, hEl, hone⟩ := ede_one G fs F ss
  have HEL : Hd (E.length ≤ 163840) := hEl
  have HONE : Hd (∀ w e w', EdgE G fs F ss w e w' → ∃ v, e = .returned (.tuple #[v, vI z]) ∧ EO w' w.heap.size v E ∧ Fr (fun _ => False) w w') := hone
  have hFa : Fr (fun _ => False) w (w.alloc (caseO G fv F sv)) := Fr.alloc (Fr.refl _ w) _
  have h0 : 0 < w.heap.size := by have := hT.lt; omega
  have hwk := works_any (w.alloc (caseO G fv F sv)) (hT.stay hFa) (hR.stay hFa h0).t
  have HB : Hd ((w.alloc (caseO G fv F sv)).heap[w.heap.size]? = some (caseO G fv F sv)) := heap_new w _
  have HFa : Hd (Fr (fun _ => False) w (w.alloc (caseO G fv F sv))) := hFa
  have H1 : Hd (FA w fv fs) := h1
  have H2 : Hd (SsA w sv ss) := h2
  have HP : Hd (FineP fs) := b1
  have HS : Hd (FineS ss) := b2
  have HT : Hd (∀ W, Fr (fun _ => False) w W → Tab W ∧ RowsA W) := fun W f => ⟨hT.stay f, hR.stay f h0⟩
  obtain ⟨fa, fc, efv, -⟩ := h1
  obtain ⟨sa, sc, esv, -⟩ := h2
  subst efv esv
  clear hFa hT hR b1 b2 hone hEl
  go_enter Tryz.func3, Tryz.ntmps3
  go_wp2_with fail
  refine hwk.mono ?_
  rintro _ w1 ⟨rfl, hF1⟩
  have HF1 : Hd (Fr (fun _ => False) w w1) := HFa.out.trans hF1
  obtain ⟨X, hX⟩ : ∃ X, X = w.heap.size := ⟨_, rfl⟩
  have HX : Hd (X = w.heap.size) := hX
  have HB1 : Hd (w1.heap[X]? = some (caseO G (.slice fa fs.length fc) F (.slice sa ss.length sc))) := by unfold Hd; rw [hX]; exact (hF1.block _ (heap_lt HB.out) (fun h => h)).trans HB.out
  have HCO : Hd (∀ W : World, W.heap[X]? = some (caseO G (.slice fa fs.length fc) F (.slice sa ss.length sc)) → W.cell? ⟨X, 0, none⟩ = some (vI G) ∧ W.cell? ⟨X, 1, none⟩ = some (.slice fa fs.length fc) ∧ W.cell? ⟨X, 2, none⟩ = some (vI F) ∧ W.cell? ⟨X, 3, none⟩ = some (.slice sa ss.length sc)) := fun W hb => ⟨by rw [cell_of hb]; rfl, by rw [cell_of hb]; rfl, by rw [cell_of hb]; rfl, by rw [cell_of hb]; rfl⟩
  have HC : Hd (∀ W, Fr (fun _ => False) w1 W → W.heap[X]? = some (caseO G (.slice fa fs.length fc) F (.slice sa ss.length sc))) := fun W f => (f.block _ (heap_lt HB1.out) (fun h => h)).trans HB1.out
  obtain ⟨p0, p1, p2, p3⟩ := HCO.out w1 (HC.out w1 (Fr.refl _ _))
  have hwp := wideProgram_any G _ fs w1 (H1.out.stay HF1.out) HP.out
  clear hF1 HFa HB hwk
  go_upto_region 2 with fail
  rw [← hX]
  clear hX
  go_wp2_with fail
  refine hwp.mono ?_
  rintro _ w2 ⟨pv, g, cv, rfl, hWF, hF2⟩
  have hpv := hWF.val
  subst hpv
  have HG2 : Hd (Fr (fun _ => False) w1 w2) := hF2
  obtain ⟨w3, hw3⟩ : ∃ w3, w3 = w2.alloc (.cells #[vI G, .slice (some ⟨g, 0, none⟩) fs.length (fs.length + 64)] 24) := ⟨_, rfl⟩
  have HW3 : Hd (w3 = w2.alloc (.cells #[vI G, .slice (some ⟨g, 0, none⟩) fs.length (fs.length + 64)] 24)) := hw3
  have hF3 : Fr (fun _ => False) w2 w3 := by rw [hw3]; exact Fr.alloc (Fr.refl _ w2) _
  obtain ⟨Y, hY⟩ : ∃ Y, Y = w2.heap.size := ⟨_, rfl⟩
  have HY : Hd (Y = w2.heap.size) := hY
  have hbY : w3.heap[Y]? = some (.cells #[vI G, .slice (some ⟨g, 0, none⟩) fs.length (fs.length + 64)] 24) := by rw [hw3, hY]; exact heap_new w2 _
  have HBY : Hd (w3.heap[Y]? = some (.cells #[vI G, .slice (some ⟨g, 0, none⟩) fs.length (fs.length + 64)] 24)) := hbY
  have HG3 : Hd (Fr (fun _ => False) w1 w3) := hF2.trans hF3
  have HWF : Hd (WF w3 w1.heap.size (.slice (some ⟨g, 0, none⟩) fs.length (fs.length + 64)) fs g cv) := hWF.stay hF3
  have HGC : Hd (∀ i, i < fs.length → ∀ k, (cv i).ownBlock = some k → w1.heap.size ≤ k ∧ k < Y) := fun i hi k e => by rw [hY]; exact (hWF.code i fs[i] (List.getElem?_eq_getElem hi)).ge k e
  have HYC : Hd (∀ W : World, W.heap[Y]? = some (.cells #[vI G, .slice (some ⟨g, 0, none⟩) fs.length (fs.length + 64)] 24) → W.cell? ⟨Y, 0, none⟩ = some (vI G) ∧ W.cell? ⟨Y, 1, none⟩ = some (.slice (some ⟨g, 0, none⟩) fs.length (fs.length + 64))) := fun W hb => ⟨by rw [cell_of hb]; rfl, by rw [cell_of hb]; rfl⟩
  have HNP : Hd (w3.heap.size = Y + 1) := by unfold Hd; rw [hw3, hY]; simp
  clear hwp p0 p1 p2 p3 hWF hF2 hF3 hw3 hY hbY
  go_upto_region 3 with fail
  rw [← HW3.out, ← HY.out]
  clear HW3
  obtain ⟨p0, p1, p2, p3⟩ := HCO.out w3 (HC.out w3 HG3.out)
  have hws := wideSums_any (.slice sa ss.length sc) ss w3 (H2.out.stay (HF1.out.trans HG3.out)) HS.out
  go_wp2_with fail
  refine hws.mono ?_
  rintro _ w4 ⟨sv', gs, xs, rfl, hWS, hF4⟩
  have HWS : Hd (WSs w4 w3.heap.size sv' ss gs xs) := hWS
  have HK4 : Hd (Fr (fun _ => False) w3 w4) := hF4
  have hsv := hWS.val
  clear hws p0 p1 p2 p3 hWS hF4
  subst hsv
  obtain ⟨p0, p1, p2, p3⟩ := HCO.out w4 (HC.out w4 (HG3.out.trans HK4.out))
  obtain ⟨y0, y1⟩ := HYC.out w4 ((HK4.out.block _ (heap_lt HBY.out) (fun h => h)).trans HBY.out)
  have HSA : Hd (∀ W, Fr (fun _ => False) w4 W → SsA W (.slice (some ⟨gs, 0, none⟩) ss.length (ss.length + 64)) ss) := fun W f => by
    obtain ⟨L, hL1, hL2⟩ := HWS.out.ssp HS.out
    have := hL1.so.sa
    rw [hL2] at this
    exact this.stay f
  have hed := edges_any G _ _ fs ss F w4 (HWF.out.stay HK4.out).fa (HSA.out w4 (Fr.refl _ _)) HP.out HS.out (HT.out w4 (HF1.out.trans (HG3.out.trans HK4.out))).1 (HT.out w4 (HF1.out.trans (HG3.out.trans HK4.out))).2
  go_wp2_with fail
  refine hed.mono ?_
  rintro e w5 hE5
  obtain ⟨v6, rfl, hO6, hF5⟩ := HONE.out _ _ _ hE5
  have HK5 : Hd (Fr (fun _ => False) w3 w5) := HK4.out.trans hF5
  have HO6 : Hd (EO w5 0 v6 E) := World.ownsRow.mono hO6 (Nat.zero_le _)
  have HF45 : Hd (Fr (fun _ => False) w4 w5) := hF5
  clear hed hE5 hO6 hF5 p0 p1 p2 p3 y0 y1
  obtain ⟨p0, p1, p2, p3⟩ := HCO.out w5 (HC.out w5 (HG3.out.trans HK5.out))
  have hrd := redges_any G _ _ fs ss F w5 (H1.out.stay (HF1.out.trans (HG3.out.trans HK5.out))) (H2.out.stay (HF1.out.trans (HG3.out.trans HK5.out))) HP.out HS.out
  go_wp2_with fail
  refine hrd.mono ?_
  rintro e w6 hE6
  obtain ⟨v8, rfl, hO8, hF6⟩ := HONE.out _ _ _ hE6
  have HK6 : Hd (Fr (fun _ => False) w3 w6) := HK5.out.trans hF6
  have HF46 : Hd (Fr (fun _ => False) w4 w6) := HF45.out.trans hF6
  have heq := eqEdges_same v6 v8 E w6 (HO6.out.stay hF6) (World.ownsRow.mono hO8 (Nat.zero_le _)) (by have := HEL.out; omega)
  obtain ⟨a6, c6, e6⟩ := own_slice HO6.out
  obtain ⟨a8, c8, e8⟩ := own_slice hO8
  subst e6 e8
  clear hrd hE6 hO8 hF6 HF45 HO6 p0 p1 p2 p3
  go_wp2_with fail
  refine heq.mono ?_
  rintro _ w7 ⟨rfl, hF7⟩
  have HK7 : Hd (Fr (fun _ => False) w3 w7) := HK6.out.trans hF7
  have HF47 : Hd (Fr (fun _ => False) w4 w7) := HF46.out.trans hF7
  clear heq hF7 HF46
  obtain ⟨p0, p1, p2, p3⟩ := HCO.out w7 (HC.out w7 (HG3.out.trans HK7.out))
  obtain ⟨y0, y1⟩ := HYC.out w7 ((HK7.out.block _ (heap_lt HBY.out) (fun h => h)).trans HBY.out)
  have hep := eqProgram_same G fs _ _ w7 (HWF.out.stay HK7.out).fa (H1.out.stay (HF1.out.trans (HG3.out.trans HK7.out))) HP.out
  go_wp2_with fail
  refine hep.mono ?_
  rintro _ w8 ⟨rfl, hF8⟩
  have HK8 : Hd (Fr (fun _ => False) w3 w8) := HK7.out.trans hF8
  have HF48 : Hd (Fr (fun _ => False) w4 w8) := HF47.out.trans hF8
  clear hep hF8 HF47 p0 p1 p2 p3 y0 y1
  obtain ⟨p0, p1, p2, p3⟩ := HCO.out w8 (HC.out w8 (HG3.out.trans HK8.out))
  have hes := eqSums_same _ _ ss w8 (HSA.out w8 HF48.out) (H2.out.stay (HF1.out.trans (HG3.out.trans HK8.out))) HS.out
  go_wp2_with fail
  refine hes.mono ?_
  rintro _ w9 ⟨rfl, hF9⟩
  have HK9 : Hd (Fr (fun _ => False) w3 w9) := HK8.out.trans hF9
  have HF49 : Hd (Fr (fun _ => False) w4 w9) := HF48.out.trans hF9
  clear hes hF9 HF48 p0 p1 p2 p3
  obtain ⟨y0, y1⟩ := HYC.out w9 ((HK9.out.block _ (heap_lt HBY.out) (fun h => h)).trans HBY.out)
  have hsp := spareProgram_any G _ fs _ g cv w9 (HWF.out.stay HK9.out) HP.out
  go_wp2_with fail
  refine hsp.mono ?_
  rintro _ w10 ⟨rfl, hF10⟩
  have HK10 : Hd (Fr (fun _ => False) w3 w10) := HK9.out.trans hF10
  have HF410 : Hd (Fr (fun _ => False) w4 w10) := HF49.out.trans hF10
  clear hsp hF10 HF49 y0 y1
  have HWW : Hd (WSs w10 w3.heap.size (.slice (some ⟨gs, 0, none⟩) ss.length (ss.length + 64)) ss gs xs) := by
    have h := HWS.out
    have f := HF410.out
    exact ⟨h.val, h.ge, h.row.fr f (fun e => e), fun i hi => (h.each i hi).stay f, fun i a b => ⟨(h.mark i a b).1.stay f, (h.mark i a b).2⟩, h.apart⟩
  have hss := spareSums_any _ ss _ gs xs w10 HWW.out HS.out
  go_wp2_with fail
  refine hss.mono ?_
  rintro _ w11 ⟨rfl, hF11⟩
  have HK11 : Hd (Fr (fun _ => False) w3 w11) := HK10.out.trans hF11
  have HAB : Hd (Abw w3.heap.size (.slice (some ⟨gs, 0, none⟩) ss.length (ss.length + 64)) ss w11) := by
    obtain ⟨L, hL1, hL2⟩ := HWW.out.ssp HS.out
    have hl : L.length = ss.length := by rw [← hL2, List.length_map]
    refine Abw.same ⟨L, hL1, hl, fun i h h' => ?_⟩ hF11
    have e : L[i].1 = ss[i] := by
      have e : (L.map (·.1))[i]? = ss[i]? := by rw [hL2]
      rw [List.getElem?_map, List.getElem?_eq_getElem h, List.getElem?_eq_getElem h'] at e
      simpa using e
    rw [e]
    exact ShS.refl _
  have hzz : (z != z) = false := by simp
  have hsl := HS.out.1
  clear hss hF11 HF410 HWW HWS HSA HK4 HK5 HK6 HK7 HK8 HK9 HK10
  go_wp2_with fail
  clear hzz
  go_loopw [12] (fun v wr => ∃ (i : Nat), v = .int .i64 i ∧ i ≤ ss.length ∧ Hd (Abw w3.heap.size (.slice (some ⟨gs, 0, none⟩) ss.length (ss.length + 64)) ss wr) ∧ Hd (Fr (fun _ => False) w3 wr)) (fun v _ => match v with | .int _ q => ss.length - q.toNat | _ => 0)
  case atStart => exact ⟨0, rfl, by omega, HAB, HK11⟩
  case round =>
    obtain ⟨i, rfl, hi, HA, HF⟩ := hrel
    by_cases hlt : i < ss.length
    · have hi0 : (0 : Int) ≤ i := by omega
      have hi1 : (i : Int) < ss.length := by omega
      have hfi := HS.out.2 _ (List.getElem_mem hlt)
      obtain ⟨n, en⟩ : ∃ n, n = ss[i].H.length := ⟨_, rfl⟩
      obtain ⟨r, er⟩ : ∃ r, r = ss[i].R.length := ⟨_, rfl⟩
      have HN : Hd (n = ss[i].H.length ∧ r = ss[i].R.length) := ⟨en, er⟩
      have hn3 : n ≤ 17592186043904 := by rw [en]; exact hfi.1
      have hr3 : r ≤ 5864062014634 := by rw [er]; exact hfi.2.1
      have HFI : Hd (∀ l ∈ ss[i].R, l.length ≤ 17592186043904) := hfi.2.2
      clear en er hfi
      go_wp2_with fail
      go_loopw [13] (fun v wr => ∃ (k : Nat), v = .int .i64 k ∧ k ≤ n ∧ Hd (Abw w3.heap.size (.slice (some ⟨gs, 0, none⟩) ss.length (ss.length + 64)) ss wr) ∧ Hd (Fr (fun _ => False) w3 wr)) (fun v _ => match v with | .int _ q => n - q.toNat | _ => 0)
      case atStart => exact ⟨0, rfl, by omega, HA, HF⟩
      case round =>
        obtain ⟨k, rfl, hk, HA, HF⟩ := hrel
        obtain ⟨g', cap', hv, rv, eo, c0, c1, ⟨xa, xc, exv⟩, -, HH, -⟩ := HA.out.heapAt hlt
        injection eo with e1 e2 e3
        injection e1 with e1
        injection e1 with e1 e4 e5
        subst e1 e3
        rw [← HN.out.1] at exv HH
        by_cases hkn : k < n
        · obtain ⟨hg, hc, d, e4, hB, c2, z2, HW⟩ := HH k hkn
          have HW : Hd (∀ x, Abw w3.heap.size (.slice (some ⟨gs, 0, none⟩) ss.length (ss.length + 64)) ss (wr.setCell ⟨hg, k, none⟩ (vI x))) := HW
          subst e4
          have HFX : Hd (∀ x, Fr (fun _ => False) w3 (wr.setCell ⟨hg, k, none⟩ (vI x))) := fun x => HF.out.then (setCell_fr wr hg k (vI x)) (fun j hj e => by have e : j = hg := e; omega)
          have hk0 : (0 : Int) ≤ k := by omega
          have hk1 : (k : Int) < n := by omega
          clear HH exv
          go_upto_region 16 with fail
          refine wp_region_still_tail 17 mixed (by kernel_rfl) ?_
          simp only [List.take_succ_cons, List.take_zero, List.drop_succ_cons, List.drop_zero]
          repeat still_step
          refine wpStill_nil ?_
          go_wp2_with fail
          exact ⟨⟨k + 1, castG k, hkn, (HW.out _).same ⟨rfl, rfl, rfl, Nat.le_refl _, fun _ _ _ => rfl⟩, (HFX.out _).trans ⟨rfl, rfl, rfl, Nat.le_refl _, fun _ _ _ => rfl⟩⟩, measG hkn⟩
        · have hdk : decide ((k : Int) < n) = false := by simp; omega
          subst exv
          clear HH
          go_wp2_with fail
          clear c0 c1 hdk
          go_loopw [14] (fun v wr => ∃ (k : Nat), v = .int .i64 k ∧ k ≤ r ∧ Hd (Abw w3.heap.size (.slice (some ⟨gs, 0, none⟩) ss.length (ss.length + 64)) ss wr) ∧ Hd (Fr (fun _ => False) w3 wr)) (fun v _ => match v with | .int _ q => r - q.toNat | _ => 0)
          case atStart => exact ⟨0, rfl, by omega, HA, HF⟩
          case round =>
            obtain ⟨k, rfl, hk, HA, HF⟩ := hrel
            obtain ⟨g', cap', hv, rv, eo, c0, c1, -, ⟨ya, yc, eyv⟩, -, HR⟩ := HA.out.heapAt hlt
            injection eo with e1 e2 e3
            injection e1 with e1
            injection e1 with e1 e4 e5
            subst e1 e3
            rw [← HN.out.2] at eyv
            by_cases hkr : k < r
            · have hkR : k < ss[i].R.length := by have := HN.out.2; omega
              obtain ⟨m, em⟩ : ∃ m, m = ss[i].R[k].length := ⟨_, rfl⟩
              have HM : Hd (m = ss[i].R[k].length) := em
              have hm3 : m ≤ 17592186043904 := by rw [em]; exact HFI.out _ (List.getElem_mem hkR)
              have hk0 : (0 : Int) ≤ k := by omega
              have hk1 : (k : Int) < r := by omega
              subst eyv
              clear em HR
              go_wp2_with fail
              clear c0 c1
              go_loopw [15] (fun v wr => ∃ (j : Nat), v = .int .i64 j ∧ j ≤ m ∧ Hd (Abw w3.heap.size (.slice (some ⟨gs, 0, none⟩) ss.length (ss.length + 64)) ss wr) ∧ Hd (Fr (fun _ => False) w3 wr)) (fun v _ => match v with | .int _ q => m - q.toNat | _ => 0)
              case atStart => exact ⟨0, rfl, by omega, HA, HF⟩
              case round =>
                obtain ⟨j, rfl, hj, HA, HF⟩ := hrel
                obtain ⟨g', cap', hv, rv, eo, c0, c1, -, -, -, HR⟩ := HA.out.heapAt hlt
                injection eo with e1 e2 e3
                injection e1 with e1
                injection e1 with e1 e4 e5
                subst e1 e3
                obtain ⟨rg, rc, u, e4, c2, ⟨ua, uc, eu⟩, HRW⟩ := HR k hkR
                subst e4
                rw [← HM.out] at eu HRW
                rw [← HN.out.2] at c1
                by_cases hjm : j < m
                · obtain ⟨ug, uc', d3, e5, hB3, c3, z3, HW⟩ := HRW j hjm
                  have HW : Hd (∀ x, Abw w3.heap.size (.slice (some ⟨gs, 0, none⟩) ss.length (ss.length + 64)) ss (wr.setCell ⟨ug, j, none⟩ (vI x))) := HW
                  subst e5
                  have HFX : Hd (∀ x, Fr (fun _ => False) w3 (wr.setCell ⟨ug, j, none⟩ (vI x))) := fun x => HF.out.then (setCell_fr wr ug j (vI x)) (fun j hj e => by have e : j = ug := e; omega)
                  have hj0 : (0 : Int) ≤ j := by omega
                  have hj1 : (j : Int) < m := by omega
                  clear HR HRW eu
                  go_wp2_with fail
                  exact ⟨⟨j + 1, castG j, hjm, HW.out _, HFX.out _⟩, measG hjm⟩
                · have hdj : decide ((j : Int) < m) = false := by simp; omega
                  subst eu
                  clear HR HRW
                  go_wp2_with fail
                  exact ⟨⟨k + 1, castG k, hkr, HA, HF⟩, measG hkr⟩
            · have hdk : decide ((k : Int) < r) = false := by simp; omega
              subst eyv
              clear HR
              go_wp2_with fail
              exact ⟨⟨i + 1, castG i, hlt, HA, HF⟩, measG hlt⟩
    · have hdi : decide ((i : Int) < ss.length) = false := by simp; omega
      have HPQ : Hd (Pq w wr w1.heap.size X Y w3.heap.size G (caseO G (.slice fa fs.length fc) F (.slice sa ss.length sc)) (.slice (some ⟨g, 0, none⟩) fs.length (fs.length + 64)) (.slice (some ⟨gs, 0, none⟩) ss.length (ss.length + 64)) fs ss g cv fs) :=
        ⟨HWF.out.stay HF.out, Like.refl fs, HP.out, HA.out, (HF.out.block _ (heap_lt HBY.out) (fun h => h)).trans HBY.out, HC.out wr (HG3.out.trans HF.out), HF1.out.trans (HG3.out.trans HF.out)⟩
      have hX1 : X < w1.heap.size := heap_lt HB1.out
      have HXB : Hd (X < w1.heap.size ∧ w.heap.size ≤ w1.heap.size ∧ Y < w3.heap.size) := ⟨hX1, HF1.out.size, by have := HNP.out; omega⟩
      have hfl := HP.out.1
      clear hX1 HA HF HAB HK11
      go_wp2_with fail
      clear hdi
      go_loopw [16] (fun v wr => ∃ (i : Nat) (fs' : List PF), v = .int .i64 i ∧ i ≤ fs.length ∧ Hd (Pq w wr w1.heap.size X Y w3.heap.size G (caseO G (.slice fa fs.length fc) F (.slice sa ss.length sc)) (.slice (some ⟨g, 0, none⟩) fs.length (fs.length + 64)) (.slice (some ⟨gs, 0, none⟩) ss.length (ss.length + 64)) fs ss g cv fs')) (fun v _ => match v with | .int _ q => fs.length - q.toNat | _ => 0)
      case atStart => exact ⟨0, fs, rfl, by omega, HPQ⟩
      case round =>
        obtain ⟨i, fs', rfl, hi, HQ⟩ := hrel
        obtain ⟨y0, y1⟩ := HYC.out wr HQ.out.y
        by_cases hlt : i < fs.length
        · have hi0 : (0 : Int) ≤ i := by omega
          have hi1 : (i : Int) < fs.length := by omega
          obtain ⟨n, en⟩ : ∃ n, n = fs[i].code.length := ⟨_, rfl⟩
          have HN : Hd (n = fs[i].code.length) := en
          have hn3 : n ≤ 1599289640354 := by rw [en]; exact (HP.out.2 _ (List.getElem_mem hlt)).1
          clear en
          go_wp2_with fail
          clear y0 y1
          go_loopw [17] (fun v wr => ∃ (k : Nat) (fs' : List PF), v = .int .i64 k ∧ k ≤ n + 2 ∧ Hd (Pq w wr w1.heap.size X Y w3.heap.size G (caseO G (.slice fa fs.length fc) F (.slice sa ss.length sc)) (.slice (some ⟨g, 0, none⟩) fs.length (fs.length + 64)) (.slice (some ⟨gs, 0, none⟩) ss.length (ss.length + 64)) fs ss g cv fs')) (fun v _ => match v with | .int _ q => n + 3 - q.toNat | _ => 0)
          case atStart => exact ⟨0, fs', rfl, by omega, HQ⟩
          case round =>
            obtain ⟨k, fs2, rfl, hk, HQ⟩ := hrel
            obtain ⟨y0, y1⟩ := HYC.out wr HQ.out.y
            have hi' : i < fs2.length := by have := HQ.out.like.1; omega
            obtain ⟨gc, ecv, q3, hop⟩ := HQ.out.wf.opAt hi'
            have hlen : fs2[i].code.length = n := (HQ.out.like.len hlt hi').trans HN.out.symm
            have hgb := HGC.out i hlt gc (by rw [ecv]; rfl)
            have hgo : (cv i).ownBlock = some gc := by rw [ecv]; rfl
            rw [hlen] at ecv
            rw [ecv] at q3
            by_cases hkn : k < n
            · have hk' : k < fs2[i].code.length := by omega
              obtain ⟨o0, oz⟩ := hop k hk'
              have HPT : Hd (∀ x : Int, ∃ fs'', Pq w (wr.setCell ⟨gc, k * 7, none⟩ (vI x)) w1.heap.size X Y w3.heap.size G (caseO G (.slice fa fs.length fc) F (.slice sa ss.length sc)) (.slice (some ⟨g, 0, none⟩) fs.length (fs.length + 64)) (.slice (some ⟨gs, 0, none⟩) ss.length (ss.length + 64)) fs ss g cv fs'') := fun x => HQ.out.put hi' hk' hgo hgb.1 hgb.2 HXB.out.2.2 HXB.out.1 HXB.out.2.1 x
              have hk0 : (0 : Int) ≤ k := by omega
              have hk1 : (k : Int) < n := by omega
              generalize fs2[i].code[k].op = op at *
              clear hop hlen ecv hgb hgo hk'
              by_cases h2 : op = 2
              · have hop : (op == 2) = true := by simpa using h2
                obtain ⟨fs3, hq3⟩ := HPT.out 5
                have HQ3 : Hd (Pq w (wr.setCell ⟨gc, k * 7, none⟩ (vI 5)) w1.heap.size X Y w3.heap.size G (caseO G (.slice fa fs.length fc) F (.slice sa ss.length sc)) (.slice (some ⟨g, 0, none⟩) fs.length (fs.length + 64)) (.slice (some ⟨gs, 0, none⟩) ss.length (ss.length + 64)) fs ss g cv fs3) := hq3
                clear hq3 HPT
                go_wp2_with fail
                exact ⟨⟨k + 3, fs3, by simp, by omega, HQ3⟩, by simp; omega⟩
              · have hop : (op == 2) = false := by simpa using h2
                clear HPT
                go_wp2_with fail
                exact ⟨⟨k + 3, fs2, by simp, by omega, HQ⟩, by simp; omega⟩
            · have hdk : decide ((k : Int) < n) = false := by simp; omega
              clear hop hlen ecv hgb hgo
              go_wp2_with fail
              exact ⟨⟨i + 1, fs2, castG i, hlt, HQ⟩, measG hlt⟩
        · have hdi : decide ((i : Int) < fs.length) = false := by simp; omega
          obtain ⟨ss', hS', hfs'⟩ := HQ.out.sums.lies HS.out
          obtain ⟨E', z', hEl', hone'⟩ := ede_one G fs' F ss'
          have HEL2 : Hd (E'.length ≤ 163840) := hEl'
          have HONE2 : Hd (∀ w e w', EdgE G fs' F ss' w e w' → ∃ v, e = .returned (.tuple #[v, vI z']) ∧ EO w' w.heap.size v E' ∧ Fr (fun _ => False) w w') := hone'
          have HS2 : Hd (SsA wr (.slice (some ⟨gs, 0, none⟩) ss.length (ss.length + 64)) ss') := hS'
          have HFS2 : Hd (FineS ss') := hfs'
          have hcp := copyProgram_any G _ fs' wr HQ.out.wf.fa HQ.out.fine
          clear hS' hfs' hone' hEl'
          go_wp2_with fail
          refine hcp.mono ?_
          rintro _ wA ⟨qv, rfl, hqv, hFA⟩
          obtain ⟨wB, hwB⟩ : ∃ wB, wB = wA.alloc (.cells #[vI G, qv] 24) := ⟨_, rfl⟩
          have HWB : Hd (wB = wA.alloc (.cells #[vI G, qv] 24)) := hwB
          have hFB : Fr (fun _ => False) wA wB := by rw [hwB]; exact Fr.alloc (Fr.refl _ wA) _
          obtain ⟨Q, hQ⟩ : ∃ Q, Q = wA.heap.size := ⟨_, rfl⟩
          have HQQ : Hd (Q = wA.heap.size) := hQ
          have hbQ : wB.heap[Q]? = some (.cells #[vI G, qv] 24) := by rw [hwB, hQ]; exact heap_new wA _
          have HBQ : Hd (∀ W, Fr (fun _ => False) wB W → W.cell? ⟨Q, 0, none⟩ = some (vI G) ∧ W.cell? ⟨Q, 1, none⟩ = some qv) := fun W f => by
            have b := (f.block _ (heap_lt hbQ) (fun h => h)).trans hbQ
            exact ⟨by rw [cell_of b]; rfl, by rw [cell_of b]; rfl⟩
          have HQB : Hd (Pq w wB w1.heap.size X Y w3.heap.size G (caseO G (.slice fa fs.length fc) F (.slice sa ss.length sc)) (.slice (some ⟨g, 0, none⟩) fs.length (fs.length + 64)) (.slice (some ⟨gs, 0, none⟩) ss.length (ss.length + 64)) fs ss g cv fs') := HQ.out.stay (hFA.trans hFB)
          have HFQ : Hd (∀ W, Fr (fun _ => False) wB W → FA W qv fs') := fun W f => hqv.stay (hFB.trans f)
          have HSB : Hd (∀ W, Fr (fun _ => False) wB W → SsA W (.slice (some ⟨gs, 0, none⟩) ss.length (ss.length + 64)) ss') := fun W f => HS2.out.stay ((hFA.trans hFB).trans f)
          have hcs := copySums_any _ ss' wB (HSB.out wB (Fr.refl _ _)) HFS2.out
          obtain ⟨qa, qc, eqv, -⟩ := hqv
          subst eqv
          clear hcp y0 y1 hdi hFA hFB hwB hQ hbQ
          go_upto_region 33 with fail
          rw [← HWB.out, ← HQQ.out]
          clear HWB HQQ
          go_wp2_with fail
          refine hcs.mono ?_
          rintro _ wC ⟨tv, L, rfl, hSO, hLm, hFC⟩
          have HST : Hd (∀ W, Fr (fun _ => False) wC W → SsA W tv ss') := fun W f => by
            have := hSO.sa
            rw [hLm] at this
            exact this.stay f
          have HFC : Hd (Fr (fun _ => False) wB wC) := hFC
          have HQC : Hd (Pq w wC w1.heap.size X Y w3.heap.size G (caseO G (.slice fa fs.length fc) F (.slice sa ss.length sc)) (.slice (some ⟨g, 0, none⟩) fs.length (fs.length + 64)) (.slice (some ⟨gs, 0, none⟩) ss.length (ss.length + 64)) fs ss g cv fs') := HQB.out.stay hFC
          obtain ⟨ta, tc, etv⟩ := own_slice hSO.row
          subst etv
          clear hcs hSO hLm hFC
          obtain ⟨p0, p1, p2, p3⟩ := HCO.out wC HQC.out.x
          obtain ⟨y0, y1⟩ := HYC.out wC HQC.out.y
          have hed := edges_any G _ _ fs' ss' F wC HQC.out.wf.fa (HSB.out wC HFC.out) HQC.out.fine HFS2.out (HT.out wC HQC.out.fr).1 (HT.out wC HQC.out.fr).2
          go_wp2_with fail
          refine hed.mono ?_
          rintro e wD hE5
          obtain ⟨v6, rfl, hO6, hF5⟩ := HONE2.out _ _ _ hE5
          have HQD : Hd (Pq w wD w1.heap.size X Y w3.heap.size G (caseO G (.slice fa fs.length fc) F (.slice sa ss.length sc)) (.slice (some ⟨g, 0, none⟩) fs.length (fs.length + 64)) (.slice (some ⟨gs, 0, none⟩) ss.length (ss.length + 64)) fs ss g cv fs') := HQC.out.stay hF5
          have HO6 : Hd (EO wD 0 v6 E') := World.ownsRow.mono hO6 (Nat.zero_le _)
          have hrd := redges_any G _ _ fs' ss' F wD (HFQ.out wD (HFC.out.trans hF5)) (HST.out wD hF5) HQD.out.fine HFS2.out
          obtain ⟨x0, x1⟩ := HBQ.out wD (HFC.out.trans hF5)
          clear hed hE5 hO6 hF5 p0 p1 p2 p3 y0 y1
          obtain ⟨p0, p1, p2, p3⟩ := HCO.out wD HQD.out.x
          go_wp2_with fail
          refine hrd.mono ?_
          rintro e wE hE6
          obtain ⟨v8, rfl, hO8, hF6⟩ := HONE2.out _ _ _ hE6
          have HFE : Hd (Fr (fun _ => False) w wE) := HQD.out.fr.trans hF6
          have heq := eqEdges_same v6 v8 E' wE (HO6.out.stay hF6) (World.ownsRow.mono hO8 (Nat.zero_le _)) (by have := HEL2.out; omega)
          obtain ⟨a6', c6', e6⟩ := own_slice HO6.out
          obtain ⟨a8', c8', e8⟩ := own_slice hO8
          subst e6 e8
          clear hrd hE6 hO8 hF6 HO6 p0 p1 p2 p3 x0 x1
          go_wp2_with fail
          refine heq.mono ?_
          rintro _ wG ⟨rfl, hFG⟩
          go_wp2_with fail
          go_ret
          exact ⟨rfl, HFE.out.trans hFG⟩
end Go.Proofs.YtlmlmhinbkcpoaaGreatDoor
