import Derived.Test.YtlmlmhinbkcpoaaDoorQEpJ
namespace Go.Proofs.YtlmlmhinbkcpoaaDoor
open Go.RowKit (wrap32 wrap64)
set_option linter.unusedVariables false
set_option linter.unusedSimpArgs false

set_option maxRecDepth 100000 in
set_option maxHeartbeats 8000000 in
theorem local_any (G : Int) (fv : Value) (fs : List PF) (F : Int) (sv : Value) (ss : List PS) (gg : Int) (h : PF) (hcv : Value) (s : PS) (shv srv : Value) (w : World) (h1 : FA w fv fs) (h2 : SsA w sv ss) (b1 : FineP fs) (b2 : FineS ss) (hT : Tab w) (hR : RowsA w)
    (h3 : CA w hcv h.code) (b3 : FineC h.code) (h4 : IA w shv s.H) (h5 : LA w srv s.R) (b4 : s.H.length ≤ 17592186043904 ∧ s.R.length ≤ 5864062014634 ∧ ∀ l ∈ s.R, l.length ≤ 17592186043904) :
    Calls Tryd.prog 3 #[.agg #[vI G, fv, vI F, sv], vI gg, .agg #[vI h.P, vI h.R, vI h.V, hcv], .agg #[shv, srv]] w fun e w' => e = .returned (.bool true) ∧ Fr (fun _ => False) w w' := by
  have H1 : Hd (FA w fv fs) := h1
  have H2 : Hd (SsA w sv ss) := h2
  have H3 : Hd (CA w hcv h.code) := h3
  have H4 : Hd (IA w shv s.H ∧ LA w srv s.R) := ⟨h4, h5⟩
  obtain ⟨fa, fc, efv, -⟩ := h1
  obtain ⟨sa, sc, esv, -⟩ := h2
  obtain ⟨ha, hc, ehc, -⟩ := h3
  obtain ⟨ia, ic, eh4, -⟩ := h4
  obtain ⟨ja, jc, eh5, -⟩ := h5
  subst efv esv ehc eh4 eh5
  have h0 : 0 < w.heap.size := by have := hT.lt; omega
  obtain ⟨wb, hwb⟩ : ∃ wb, wb = ((w.alloc (caseO G (.slice fa fs.length fc) F (.slice sa ss.length sc))).alloc (funO h (.slice ha h.code.length hc))).alloc (sumO (.slice ia s.H.length ic) (.slice ja s.R.length jc)) := ⟨_, rfl⟩
  have HWB : Hd (wb = ((w.alloc (caseO G (.slice fa fs.length fc) F (.slice sa ss.length sc))).alloc (funO h (.slice ha h.code.length hc))).alloc (sumO (.slice ia s.H.length ic) (.slice ja s.R.length jc))) := hwb
  have hFa : Fr (fun _ => False) w wb := by rw [hwb]; exact Fr.alloc (Fr.alloc (Fr.alloc (Fr.refl _ w) _) _) _
  have k1 : wb.heap[w.heap.size]? = some (caseO G (.slice fa fs.length fc) F (.slice sa ss.length sc)) := by
    rw [hwb, Go.RowKit.Below.heap_alloc _ _ _ (by simp; omega), Go.RowKit.Below.heap_alloc _ _ _ (by simp)]; exact heap_new w _
  have k2 : wb.heap[w.heap.size + 1]? = some (funO h (.slice ha h.code.length hc)) := by
    have := heap_new (w.alloc (caseO G (.slice fa fs.length fc) F (.slice sa ss.length sc))) (funO h (.slice ha h.code.length hc))
    rw [World.size_alloc] at this
    rw [hwb, Go.RowKit.Below.heap_alloc _ _ _ (by simp)]; exact this
  have k3 : wb.heap[w.heap.size + 2]? = some (sumO (.slice ia s.H.length ic) (.slice ja s.R.length jc)) := by
    have := heap_new ((w.alloc (caseO G (.slice fa fs.length fc) F (.slice sa ss.length sc))).alloc (funO h (.slice ha h.code.length hc))) (sumO (.slice ia s.H.length ic) (.slice ja s.R.length jc))
    rw [World.size_alloc, World.size_alloc] at this
    rw [hwb]; exact this
  obtain ⟨X, hX⟩ : ∃ X, X = w.heap.size := ⟨_, rfl⟩
  have HX : Hd (X = w.heap.size) := hX
  rw [← hX] at k1 k2 k3
  have hwk := works_any wb (hT.stay hFa) (hR.stay hFa h0).t
  have HC0 : Hd (∀ W, Fr (fun _ => False) wb W → W.cell? ⟨X, 0, none⟩ = some (vI G) ∧ W.cell? ⟨X, 1, none⟩ = some (.slice fa fs.length fc) ∧ W.cell? ⟨X, 2, none⟩ = some (vI F) ∧ W.cell? ⟨X, 3, none⟩ = some (.slice sa ss.length sc) ∧ W.cell? ⟨X + 1, 0, none⟩ = some (vI h.P) ∧ W.cell? ⟨X + 1, 1, none⟩ = some (vI h.R) ∧ W.cell? ⟨X + 1, 2, none⟩ = some (vI h.V) ∧ W.cell? ⟨X + 1, 3, none⟩ = some (.slice ha h.code.length hc) ∧ W.cell? ⟨X + 2, 0, none⟩ = some (.slice ia s.H.length ic) ∧ W.cell? ⟨X + 2, 1, none⟩ = some (.slice ja s.R.length jc)) := fun W f => by
    have e1 := (f.block _ (heap_lt k1) (fun h => h)).trans k1
    have e2 := (f.block _ (heap_lt k2) (fun h => h)).trans k2
    have e3 := (f.block _ (heap_lt k3) (fun h => h)).trans k3
    exact ⟨by rw [cell_of e1]; rfl, by rw [cell_of e1]; rfl, by rw [cell_of e1]; rfl, by rw [cell_of e1]; rfl, by rw [cell_of e2]; rfl, by rw [cell_of e2]; rfl, by rw [cell_of e2]; rfl, by rw [cell_of e2]; rfl, by rw [cell_of e3]; rfl, by rw [cell_of e3]; rfl⟩
  have HFa : Hd (Fr (fun _ => False) w wb) := hFa
  have HP : Hd (FineP fs) := b1
  have HS : Hd (FineS ss) := b2
  have HB3 : Hd (FineC h.code) := b3
  have HB4 : Hd (s.H.length ≤ 17592186043904 ∧ s.R.length ≤ 5864062014634 ∧ ∀ l ∈ s.R, l.length ≤ 17592186043904) := b4
  have HT : Hd (Tab w) := hT
  have HR : Hd (RowsA w ∧ 0 < w.heap.size) := ⟨hR, h0⟩
  clear hFa hT hR b1 b2 b3 b4 hwb k1 k2 k3 hX h0
  go_enter Tryd.func3, Tryd.ntmps3
  go_upto_region 1 with fail
  rw [← HWB.out, ← HX.out]
  clear HWB
  go_wp2_with fail
  refine hwk.mono ?_
  rintro _ w1 ⟨rfl, hF1⟩
  have HF1 : Hd (Fr (fun _ => False) w w1) := HFa.out.trans hF1
  have HC : Hd (∀ W, Fr (fun _ => False) w1 W → W.cell? ⟨X, 0, none⟩ = some (vI G) ∧ W.cell? ⟨X, 1, none⟩ = some (.slice fa fs.length fc) ∧ W.cell? ⟨X, 2, none⟩ = some (vI F) ∧ W.cell? ⟨X, 3, none⟩ = some (.slice sa ss.length sc) ∧ W.cell? ⟨X + 1, 0, none⟩ = some (vI h.P) ∧ W.cell? ⟨X + 1, 1, none⟩ = some (vI h.R) ∧ W.cell? ⟨X + 1, 2, none⟩ = some (vI h.V) ∧ W.cell? ⟨X + 1, 3, none⟩ = some (.slice ha h.code.length hc) ∧ W.cell? ⟨X + 2, 0, none⟩ = some (.slice ia s.H.length ic) ∧ W.cell? ⟨X + 2, 1, none⟩ = some (.slice ja s.R.length jc)) := fun W f => HC0.out W (hF1.trans f)
  obtain ⟨p0, p1, p2, p3, -⟩ := HC.out w1 (Fr.refl _ _)
  clear hF1 HFa hwk HC0
  go_upto_region 2 with fail
  go_cut [10, 11] (fun x4 x5 wx => Hd (Fr (fun _ => False) w1 wx) ∧ Hd (Ans G fs F ss wx x4 x5))
  case first =>
    go_region_held3 (fun w' => w'.cell? ⟨X, 0, none⟩ = some (vI G) ∧ w'.cell? ⟨X, 1, none⟩ = some (.slice fa fs.length fc) ∧ w'.cell? ⟨X, 2, none⟩ = some (vI F) ∧ w'.cell? ⟨X, 3, none⟩ = some (.slice sa ss.length sc)) (go_keep) ((
      first
        | (go_at_call 10
           refine (show Calls Tryd.prog 10 #[.agg #[vI G, .slice fa fs.length fc]] _ _ from copyProgram_any G _ fs _ (by first | exact H1.out.stay (HF1.out.trans ((Fr.refl (fun _ => False) w1).drew)) | exact H1.out.stay (HF1.out.trans HGb.out)) HP.out).mono ?_
           rintro e wx ⟨pv, rfl, hpo, hfx⟩
           have HPO : Hd (FA wx pv fs) := hpo
           obtain ⟨pa, pc, epv, -⟩ := hpo
           subst epv
           have HGa : Hd (Fr (fun _ => False) w1 wx) := by first | exact (Fr.drew (Fr.refl _ _)).trans hfx | exact HGb.out.trans hfx
           obtain ⟨s0, s1, s2, s3, -⟩ := HC.out wx HGa.out
           have HFXa : Hd _ := hfx
           clear hfx)
        | (go_at_call 11
           refine (show Calls Tryd.prog 11 #[.slice sa ss.length sc] _ _ from copySums_any _ ss _ (by first | exact H2.out.stay (HF1.out.trans ((Fr.refl (fun _ => False) w1).drew)) | exact H2.out.stay (HF1.out.trans HGa.out)) HS.out).mono ?_
           rintro e wy ⟨qv, Lq, rfl, hqo, hLq, hfy⟩
           have HQO : Hd (SsA wy qv ss) := by have := hqo.sa; rw [hLq] at this; exact this
           obtain ⟨qa, qc, eqv⟩ := own_slice hqo.row
           subst eqv
           have HGb : Hd (Fr (fun _ => False) w1 wy) := by first | exact (Fr.drew (Fr.refl _ _)).trans hfy | exact HGa.out.trans hfy
           obtain ⟨t0, t1, t2, t3, -⟩ := HC.out wy HGb.out
           have HFXb : Hd _ := hfy
           clear hqo hLq hfy)
        | (go_at_call 9
           refine (show Calls Tryd.prog 9 #[.agg #[vI G, .slice pa fs.length pc], vI F, .slice qa Lq.length qc] _ _ from edges_any G _ _ fs ss F _ (by first | exact HPO.out | exact HPO.out.stay HFXb.out) (by first | exact HQO.out | exact HQO.out.stay HFXa.out) HP.out HS.out (HT.out.stay (HF1.out.trans (by first | exact HGa.out | exact HGb.out))) (HR.out.1.stay (HF1.out.trans (by first | exact HGa.out | exact HGb.out)) HR.out.2)).mono ?_
           rintro e wz hE
           obtain ⟨xv, xe, ee, hrel⟩ := hE.ans
           subst ee
           have HREL : Hd (Ans G fs F ss wz xv xe) := hrel
           have HGz : Hd (Fr (fun _ => False) w1 wz) := Fr.trans (by first | exact HGb.out | exact HGa.out) hE.1
           obtain ⟨r0, r1, r2, r3, -⟩ := HC.out wz HGz.out
           clear hE hrel)))
    all_goals
      go_wp2_with fail
      go_meet
      exact ⟨HGz, HREL⟩
  case rest =>
    obtain ⟨HG, HAN⟩ := hcut
    have HFc : Hd (Fr (fun _ => False) w wc) := HF1.out.trans HG.out
    clear p0 p1 p2 p3
    obtain ⟨q0, q1, q2, q3, -⟩ := HC.out wc HG.out
    by_cases c1 : gg < 0
    · have d1 : decide (gg < 0) = true := by simpa using c1
      go_wp2_with fail
      go_ret
      exact ⟨rfl, HFc.out⟩
    have d1 : decide (gg < 0) = false := by simpa using c1
    by_cases c2 : gg ≥ fs.length
    · have d2 : decide (gg ≥ (fs.length : Int)) = true := by simpa using c2
      have d2' : decide ((fs.length : Int) ≤ gg) = true := by simpa using c2
      go_wp2_with fail
      go_ret
      exact ⟨rfl, HFc.out⟩
    have d2 : decide (gg ≥ (fs.length : Int)) = false := by simpa using c2
    have d2' : decide ((fs.length : Int) ≤ gg) = false := by simpa using c2
    by_cases c3 : gg = F
    · have d3 : (gg == F) = true := by simpa using c3
      go_wp2_with fail
      go_ret
      exact ⟨rfl, HFc.out⟩
    have d3 : (gg == F) = false := by simpa using c3
    by_cases c4 : gg ≥ ss.length
    · have d4 : decide (gg ≥ (ss.length : Int)) = true := by simpa using c4
      have d4' : decide ((ss.length : Int) ≤ gg) = true := by simpa using c4
      go_wp2_with fail
      go_ret
      exact ⟨rfl, HFc.out⟩
    have d4 : decide (gg ≥ (ss.length : Int)) = false := by simpa using c4
    have d4' : decide ((ss.length : Int) ≤ gg) = false := by simpa using c4
    by_cases c5 : F < 0
    · have d5 : decide (F < 0) = true := by simpa using c5
      go_wp2_with fail
      go_ret
      exact ⟨rfl, HFc.out⟩
    have d5 : decide (F < 0) = false := by simpa using c5
    by_cases c6 : F ≥ fs.length
    · have d6 : decide (F ≥ (fs.length : Int)) = true := by simpa using c6
      have d6' : decide ((fs.length : Int) ≤ F) = true := by simpa using c6
      go_wp2_with fail
      go_ret
      exact ⟨rfl, HFc.out⟩
    have d6 : decide (F ≥ (fs.length : Int)) = false := by simpa using c6
    have d6' : decide ((fs.length : Int) ≤ F) = false := by simpa using c6
    have hcp := copyProgramO_any G _ fs wc (H1.out.stay HFc.out) HP.out
    go_upto_region 5 with fail
    clear d1 d2 d2' d3 d4 d4' d5 d6 d6'
    obtain ⟨i, rfl⟩ : ∃ i : Nat, F = i := ⟨F.toNat, by omega⟩
    obtain ⟨g, rfl⟩ : ∃ g : Nat, gg = g := ⟨gg.toNat, by omega⟩
    have hi : i < fs.length := by omega
    have hg : g < fs.length := by omega
    have hgs : g < ss.length := by omega
    have hgi : g ≠ i := by omega
    clear c1 c2 c3 c4 c5 c6
    go_wp2_with fail
    refine hcp.mono ?_
    rintro _ wA ⟨pv, L, rfl, hFO, hLm, hFA⟩
    have hLl : L.length = fs.length := by rw [← hLm, List.length_map]
    obtain ⟨pg, pc, rfl⟩ : ∃ pg pc, pv = .slice (some ⟨pg, 0, none⟩) L.length pc := by
      rcases hFO.row.2 with ⟨-, e2⟩ | ⟨g', cap', cur, e1, -⟩
      · omega
      · exact ⟨_, _, e1⟩
    obtain ⟨wA1, hwA1⟩ : ∃ wA1, wA1 = wA.alloc (.cells #[vI G, .slice (some ⟨pg, 0, none⟩) L.length pc] 24) := ⟨_, rfl⟩
    have HWA1 : Hd (wA1 = wA.alloc (.cells #[vI G, .slice (some ⟨pg, 0, none⟩) L.length pc] 24)) := hwA1
    have hFA1 : Fr (fun _ => False) wA wA1 := by rw [hwA1]; exact Fr.alloc (Fr.refl _ wA) _
    have hbY : wA1.heap[wA.heap.size]? = some (.cells #[vI G, .slice (some ⟨pg, 0, none⟩) L.length pc] 24) := by rw [hwA1]; exact heap_new wA _
    have hszA : wA1.heap.size = wA.heap.size + 1 := by rw [hwA1]; simp
    obtain ⟨Y, hY⟩ : ∃ Y, Y = wA.heap.size := ⟨_, rfl⟩
    have HY : Hd (Y = wA.heap.size) := hY
    rw [← hY] at hbY
    have HBY : Hd (wA1.heap[Y]? = some (.cells #[vI G, .slice (some ⟨pg, 0, none⟩) L.length pc] 24)) := hbY
    have HFO : Hd (FO wA (wc.heap.size + 2) (.slice (some ⟨pg, 0, none⟩) L.length pc) L) := hFO
    have HLM : Hd (L.map (·.1) = fs ∧ L.length = fs.length) := ⟨hLm, hLl⟩
    have HG1 : Hd (Fr (fun _ => False) wc wA1) := hFA.trans hFA1
    have HFA1 : Hd (Fr (fun _ => False) wA wA1) := hFA1
    have HSZ : Hd (wA1.heap.size = wA.heap.size + 1 ∧ wc.heap.size ≤ wA.heap.size) := ⟨hszA, hFA.size⟩
    have hcs := copySums_any _ ss wA1 (H2.out.stay (HFc.out.trans HG1.out)) HS.out
    clear hcp q0 q1 q2 q3 hFO hLm hLl hFA hFA1 hwA1 hbY hY hszA
    obtain ⟨q0, q1, q2, q3, -⟩ := HC.out wA1 (HG.out.trans HG1.out)
    go_upto_region 6 with fail
    rw [← HWA1.out, ← HY.out]
    have HYE : Hd (Y = wA.heap.size) := HY
    clear HWA1 HY
    go_wp2_with fail
    refine hcs.mono ?_
    rintro _ wB ⟨qv, Lq, rfl, hSO, hLq, hFB⟩
    have hLql : Lq.length = ss.length := by rw [← hLq, List.length_map]
    obtain ⟨qg, qc, rfl⟩ : ∃ qg qc, qv = .slice (some ⟨qg, 0, none⟩) Lq.length qc := by
      rcases hSO.row.2 with ⟨-, e2⟩ | ⟨g', cap', cur, e1, -⟩
      · omega
      · exact ⟨_, _, e1⟩
    have HSO : Hd (SsO wB wA1.heap.size (.slice (some ⟨qg, 0, none⟩) Lq.length qc) Lq) := hSO
    have HLQ : Hd (Lq.map (·.1) = ss ∧ Lq.length = ss.length) := ⟨hLq, hLql⟩
    have HG2 : Hd (Fr (fun _ => False) wc wB) := HG1.out.trans hFB
    have HFB : Hd (Fr (fun _ => False) wA1 wB) := hFB
    obtain ⟨a', c', e', hff⟩ := H1.out.stay (HFc.out.trans HG2.out)
    cases e'
    obtain ⟨fk, fo, efa, hfk, hff⟩ := hff (by intro e; rw [e] at hi; simp at hi)
    obtain ⟨cv, g0, g1, g2, g3, hcv⟩ := hff i hi
    subst efa
    have hcl := calls_any fs[i] cv (g : Int) wB hcv (HP.out.2 fs[i] (List.getElem_mem hi)).1
    obtain ⟨ca, cc, ecv, -⟩ := hcv
    subst ecv
    have hi1 : (0 : Int) ≤ i := by omega
    have hi2 : (i : Int) < fs.length := by omega
    clear hcs q0 q1 q2 q3 hSO hLq hLql hFB hff
    obtain ⟨q0, q1, q2, q3, -⟩ := HC.out wB (HG.out.trans HG2.out)
    go_wp2_with fail
    refine hcl.mono ?_
    rintro _ wD ⟨rfl, hFD⟩
    have HG3 : Hd (Fr (fun _ => False) wc wD) := HG2.out.trans hFD
    have HFD : Hd (Fr (fun _ => False) wA wD) := HFA1.out.trans (HFB.out.trans hFD)
    have HSD : Hd (SsO wD wA1.heap.size (.slice (some ⟨qg, 0, none⟩) Lq.length qc) Lq) := HSO.out.stay hFD
    have HBD : Hd (wD.heap[Y]? = some (.cells #[vI G, .slice (some ⟨pg, 0, none⟩) L.length pc] 24)) := (hFD.block _ (heap_lt ((HFB.out.block _ (heap_lt HBY.out) (fun h => h)).trans HBY.out)) (fun h => h)).trans ((HFB.out.block _ (heap_lt HBY.out) (fun h => h)).trans HBY.out)
    have HFW : Hd (Fr (fun _ => False) w wD) := HFc.out.trans HG3.out
    have hpr : pg < wA.heap.size ∧ wc.heap.size + 2 ≤ pg := ⟨(World.ownsRow.lt HFO.out.row pg rfl).2, (World.ownsRow.lt HFO.out.row pg rfl).1⟩
    have hqr : wA1.heap.size ≤ qg := (World.ownsRow.lt HSD.out.row qg rfl).1
    have hwc := HFc.out.size
    have HNL : Hd ((rowN L).length = L.length) := by unfold Hd rowN; simp
    have HRD : Hd (wD.ownsRow (wc.heap.size + 2) 30 4 (.slice (some ⟨pg, 0, none⟩) (rowN L).length pc) (rowN L).length ((rowN L).flatMap rowP)) := by
      unfold Hd
      rw [rowN_flat, HNL.out]
      exact ownsRow_frL HFO.out.row HFD.out (fun _ _ e => e)
    clear g0 g1 g2 g3 q0 q1 q2 q3 hcl hFD hfk HBY HFB HSO
    obtain ⟨q0, q1, q2, q3, x0, x1, x2, x3, y0, y1⟩ := HC.out wD (HG.out.trans HG3.out)
    have z0 : wD.cell? ⟨Y, 0, none⟩ = some (vI G) := by rw [cell_of HBD.out]; rfl
    have z1 : wD.cell? ⟨Y, 1, none⟩ = some (.slice (some ⟨pg, 0, none⟩) L.length pc) := by rw [cell_of HBD.out]; rfl
    have hg1 : (0 : Int) ≤ g := by omega
    have hg2 : (g : Int) < L.length := by have := HLM.out.2; omega
    have hg3 : (g : Int) < Lq.length := by have := HLQ.out.2; omega
    cases hcx : callsX fs[i].code (g : Int) with
    | true =>
      have hLg : g < L.length := by have := HLM.out.2; omega
      obtain ⟨oa, on, oc, eoc⟩ : ∃ oa on oc, L[g].2.1 = .slice oa on oc := by
        obtain ⟨a, c, e⟩ := (HFO.out.code L[g] (List.getElem_mem hLg)).1.shape
        exact ⟨_, _, _, e⟩
      have hrg : (rowN L)[g]'(by have := HNL.out; omega) = (L[g].1, L[g].2.1) := by simp only [rowN, List.getElem_map]
      obtain ⟨pg', cap', epg, -, oldc⟩ := own_cell HRD.out (j := g * 4 + 3) (u := .slice oa on oc) (by rw [flat_get rowP 4 (fun _ => rfl) (rowN L) g 3 (by have := HNL.out; omega) (by omega), hrg, eoc]; rfl)
      cases epg
      have oldz : wD.frozen? ⟨pg, g * 4 + 3, none⟩ = false := (row_set (j := g * 4 + 3) HRD.out (vI 0)).2
      have hFs := setCell_fr wD pg (g * 4 + 3) (.slice ha h.code.length hc)
      have hXc : X + 2 < wD.heap.size := cell_lt y0
      have HNO : Hd (∀ j, j < w.heap.size → j = pg → False) := fun j hj e => by omega
      have HNC : Hd (∀ j, j < wc.heap.size → j = pg → False) := fun j hj e => by omega
      have HN0 : Hd (∀ j, j ≤ X → ¬ j = pg) := fun j hj e => by have := HX.out; omega
      have HNY : Hd (¬ Y = pg) := fun e => by have := HYE.out; omega
      have HFAE : Hd (FA (wD.setCell ⟨pg, g * 4 + 3, none⟩ (.slice ha h.code.length hc)) (.slice (some ⟨pg, 0, none⟩) L.length pc) (fs.set g { fs[g] with code := h.code })) := by
        have := fo_code (HFO.out.stay HFD.out) hLg (w0 := w) (by omega) HFW.out H3.out
        have e1 : L[g].1 = fs[g] := by
          have e : (L.map (·.1))[g]? = fs[g]? := by rw [HLM.out.1]
          rw [List.getElem?_map, List.getElem?_eq_getElem hLg, List.getElem?_eq_getElem hg] at e
          simpa using e
        rw [HLM.out.1, e1] at this
        exact this
      have HSSE : Hd (SsA (wD.setCell ⟨pg, g * 4 + 3, none⟩ (.slice ha h.code.length hc)) (.slice (some ⟨qg, 0, none⟩) Lq.length qc) ss) := by
        have := (HSD.out.far hFs (fun k e => by have := HSZ.out.1; have e : k = pg := e; omega)).sa
        rw [HLQ.out.1] at this
        exact this
      have HFP : Hd (FineP (fs.set g { fs[g] with code := h.code })) := fine_set HP.out HB3.out
      have HFS : Hd (FineS ss) := HS.out
      have HF9 : Hd (Fr (fun _ => False) w (wD.setCell ⟨pg, g * 4 + 3, none⟩ (.slice ha h.code.length hc))) := HFW.out.then hFs (fun j hj e => HNO.out j hj e)
      have HF8 : Hd (Fr (fun _ => False) wc (wD.setCell ⟨pg, g * 4 + 3, none⟩ (.slice ha h.code.length hc))) := HG3.out.then hFs (fun j hj e => HNC.out j hj e)
      have hed := edges_any G _ _ (fs.set g { fs[g] with code := h.code }) (ss) (i : Int) (wD.setCell ⟨pg, g * 4 + 3, none⟩ (.slice ha h.code.length hc)) HFAE.out HSSE.out HFP.out HFS.out (HT.out.stay HF9.out) (HR.out.1.stay HF9.out HR.out.2)
      have w2 : (wD.setCell ⟨pg, g * 4 + 3, none⟩ (.slice ha h.code.length hc)).cell? ⟨X, 2, none⟩ = some (vI (i : Int)) := (hFs.cell (cell_lt q2) (HN0.out X (by omega))).trans q2
      have v0 : (wD.setCell ⟨pg, g * 4 + 3, none⟩ (.slice ha h.code.length hc)).cell? ⟨Y, 0, none⟩ = some (vI G) := (hFs.cell (cell_lt z0) HNY.out).trans z0
      have v1 : (wD.setCell ⟨pg, g * 4 + 3, none⟩ (.slice ha h.code.length hc)).cell? ⟨Y, 1, none⟩ = some (.slice (some ⟨pg, 0, none⟩) L.length pc) := (hFs.cell (cell_lt z0) HNY.out).trans z1
      have hi' : i < (fs.set g { fs[g] with code := h.code }).length := by rw [List.length_set]; exact hi
      have he' : (fs.set g { fs[g] with code := h.code })[i] = fs[i] := by rw [List.getElem_set_ne hgi]
      have HAL : Hd (Alike fs[i].code fs (fs.set g { fs[g] with code := h.code }) ss (ss)) := alike_code fs[i].code hg h.code
      go_wp2_with fail
      refine hed.mono ?_
      rintro e wz hE
      obtain ⟨xv, xe, ee, hrel⟩ := hE.ans
      subst ee
      have HFz : Hd (Fr (fun _ => False) w wz) := HF9.out.trans hE.1
      obtain ⟨⟨z, ez, ez'⟩, ⟨a1, n1, c1, ex⟩, ⟨a2, n2, c2, ex'⟩, hcall⟩ := (HAN.out.stay (HF8.out.trans hE.1)).eq hrel hi hi' he' HAL.out
      subst ez ez' ex ex'
      clear hed hrel hE w2 v0 v1 z0 z1 q0 q1 q2 q3 x0 x1 x2 x3 y0 y1 HAN
      go_wp2_with fail
      refine hcall.mono ?_
      rintro _ wy ⟨rfl, hFy⟩
      go_wp2_with fail
      go_ret
      exact ⟨rfl, HFz.out.trans hFy⟩
    | false =>
      have hLg : g < L.length := by have := HLM.out.2; omega
      have hLqg : g < Lq.length := by have := HLQ.out.2; omega
      obtain ⟨oa, on, oc, eoc⟩ : ∃ oa on oc, L[g].2.1 = .slice oa on oc := by
        obtain ⟨a, c, e⟩ := (HFO.out.code L[g] (List.getElem_mem hLg)).1.shape
        exact ⟨_, _, _, e⟩
      have hrg : (rowN L)[g]'(by have := HNL.out; omega) = (L[g].1, L[g].2.1) := by simp only [rowN, List.getElem_map]
      have opc : ∀ o u, o < 4 → (rowP (L[g].1, L[g].2.1))[o]? = some u → wD.cell? ⟨pg, g * 4 + o, none⟩ = some u := fun o u ho hu => by
        obtain ⟨pg', cap', epg, -, oldc⟩ := own_cell HRD.out (j := g * 4 + o) (u := u) (by rw [flat_get rowP 4 (fun _ => rfl) (rowN L) g o (by have := HNL.out; omega) ho, hrg]; exact hu)
        cases epg
        exact oldc
      have o0 := opc 0 _ (by omega) rfl
      have o1 := opc 1 _ (by omega) rfl
      have o2 := opc 2 _ (by omega) rfl
      have o3 : wD.cell? ⟨pg, g * 4 + 3, none⟩ = some (.slice oa on oc) := opc 3 _ (by omega) (by rw [← eoc]; rfl)
      rw [Nat.add_zero] at o0
      have r0 : wD.frozen? ⟨pg, g * 4, none⟩ = false := (row_set (j := g * 4) HRD.out (vI 0)).2
      have r1 : wD.frozen? ⟨pg, g * 4 + 1, none⟩ = false := (row_set (j := g * 4 + 1) HRD.out (vI 0)).2
      have r2 : wD.frozen? ⟨pg, g * 4 + 2, none⟩ = false := (row_set (j := g * 4 + 2) HRD.out (vI 0)).2
      have r3 : wD.frozen? ⟨pg, g * 4 + 3, none⟩ = false := (row_set (j := g * 4 + 3) HRD.out (vI 0)).2
      obtain ⟨wE, hwE⟩ : ∃ wE, wE = fn4 wD pg (g * 4) h (.slice ha h.code.length hc) := ⟨_, rfl⟩
      have hF4 : Fr (fun j => j = pg) wD wE := by rw [hwE]; exact fn4_fr _ _ _ _ _
      have HWE : Hd ((((wD.setCell ⟨pg, g * 4, none⟩ (vI h.P)).setCell ⟨pg, g * 4 + 1, none⟩ (vI h.R)).setCell ⟨pg, g * 4 + 2, none⟩ (vI h.V)).setCell ⟨pg, g * 4 + 3, none⟩ (.slice ha h.code.length hc) = wE) := hwE.symm
      have hXc : X + 2 < wD.heap.size := cell_lt y0
      have hXw : X + 2 < wc.heap.size := cell_lt (HC.out wc HG.out).2.2.2.2.2.2.2.2.1
      have HSE : Hd (SsO wE wA1.heap.size (.slice (some ⟨qg, 0, none⟩) Lq.length qc) Lq) := HSD.out.far hF4 (fun k e => by have := HSZ.out.1; have e : k = pg := e; omega)
      have HRE : Hd (wE.ownsRow (wc.heap.size + 2) 30 4 (.slice (some ⟨pg, 0, none⟩) L.length pc) L.length (((rowN L).set g (h, .slice ha h.code.length hc)).flatMap rowP)) := by
        have := fn4_row HRD.out (i := g) (by have := HNL.out; omega) h (.slice ha h.code.length hc)
        rw [HNL.out] at this
        rw [hwE]
        exact this
      have HFE : Hd (Fr (fun _ => False) w wE) := HFW.out.then hF4 (fun j hj e => by have e : j = pg := e; omega)
      have hqs := HSE.out.each Lq[g] (List.getElem_mem hLqg)
      obtain ⟨ua, uc, eu1⟩ := own_slice hqs.oh
      obtain ⟨wa', wc', eu2⟩ := own_slice hqs.lo.row
      have qpc : ∀ o u, o < 2 → (rowS Lq[g])[o]? = some u → wE.cell? ⟨qg, g * 2 + o, none⟩ = some u := fun o u ho hu => by
        obtain ⟨pg', cap', epg, -, oldc⟩ := own_cell HSE.out.row (j := g * 2 + o) (u := u) (by rw [flat_get rowS 2 (fun _ => rfl) Lq g o hLqg ho]; exact hu)
        cases epg
        exact oldc
      have m0 := qpc 0 _ (by omega) rfl
      have m1 := qpc 1 _ (by omega) rfl
      rw [Nat.add_zero] at m0
      rw [eu1] at m0
      rw [eu2] at m1
      have n0 : wE.frozen? ⟨qg, g * 2, none⟩ = false := (row_set (j := g * 2) HSE.out.row (vI 0)).2
      have n1 : wE.frozen? ⟨qg, g * 2 + 1, none⟩ = false := (row_set (j := g * 2 + 1) HSE.out.row (vI 0)).2
      have b0 : wE.cell? ⟨X + 2, 0, none⟩ = some (.slice ia s.H.length ic) := (hF4.cell (cell_lt y0) (fun e => by have e : X + 2 = pg := e; omega)).trans y0
      have b1 : wE.cell? ⟨X + 2, 1, none⟩ = some (.slice ja s.R.length jc) := (hF4.cell (cell_lt y0) (fun e => by have e : X + 2 = pg := e; omega)).trans y1
      have hF5 := sm2_fr wE qg (g * 2) (.slice ia s.H.length ic) (.slice ja s.R.length jc)
      obtain ⟨wE2, hwE2⟩ : ∃ wE2, wE2 = sm2 wE qg (g * 2) (.slice ia s.H.length ic) (.slice ja s.R.length jc) := ⟨_, rfl⟩
      have HWE2 : Hd ((wE.setCell ⟨qg, g * 2, none⟩ (.slice ia s.H.length ic)).setCell ⟨qg, g * 2 + 1, none⟩ (.slice ja s.R.length jc) = wE2) := hwE2.symm
      rw [← hwE2] at hF5
      have hFs : Fr (fun j => j = pg ∨ j = qg) wD wE2 := (hF4.mono (fun _ _ e => Or.inl e)).trans (hF5.mono (fun _ _ e => Or.inr e))
      have HNO : Hd (∀ j, j < w.heap.size → (j = pg ∨ j = qg) → False) := fun j hj e => by have := HSZ.out; omega
      have HNC : Hd (∀ j, j < wc.heap.size → (j = pg ∨ j = qg) → False) := fun j hj e => by have := HSZ.out; omega
      have HN0 : Hd (∀ j, j ≤ X → ¬ (j = pg ∨ j = qg)) := fun j hj e => by have := HSZ.out; omega
      have HNY : Hd (¬ (Y = pg ∨ Y = qg)) := fun e => by have := HYE.out; have := HSZ.out; omega
      have HFAE : Hd (FA wE2 (.slice (some ⟨pg, 0, none⟩) L.length pc) (fs.set g h)) := by
        have := fa_after (S := fun j => j = pg ∨ j = qg) (x := (h, .slice ha h.code.length hc)) HFO.out ((HFD.out.mono (fun _ _ e => e.elim)).trans hFs) (fun k e => by have e : k = pg ∨ k = qg := e; have := HSZ.out; omega) hLg (ownsRow_frL HRE.out hF5 (fun k e1 e2 => by have e1 : some pg = some k := e1; have e1 := Option.some.inj e1; have e2 : k = qg := e2; have := HSZ.out; omega)) (H3.out.stay (HFW.out.then hFs (fun j hj e => HNO.out j hj e)))
        rw [HLM.out.1] at this
        exact this
      have HSSE : Hd (SsA wE2 (.slice (some ⟨qg, 0, none⟩) Lq.length qc) (ss.set g s)) := by
        have := ss_sum HSE.out hLqg (w0 := w) (by have := HSZ.out; omega) HFE.out H4.out.1 H4.out.2
        rw [HLQ.out.1, ← hwE2] at this
        exact this
      have HFP : Hd (FineP (fs.set g h)) := fine_set HP.out HB3.out
      have HFS : Hd (FineS (ss.set g s)) := fineS_set HS.out HB4.out
      have HCX : Hd (callsX fs[i].code (g : Int) = false) := hcx
      clear hwE hwE2 opc qpc hqs hcx eoc eu1 eu2 hrg
      go_upto_region 10 with fail
      rw [show (((wD.setCell ⟨pg, g * 4, none⟩ (vI h.P)).setCell ⟨pg, g * 4 + 1, none⟩ (vI h.R)).setCell ⟨pg, g * 4 + 2, none⟩ (vI h.V)).setCell ⟨pg, g * 4 + 3, none⟩ (.slice ha h.code.length hc) = wE from HWE.out]
      clear HWE o0 o1 o2 o3 r0 r1 r2 r3
      go_upto_region 11 with fail
      rw [show (wE.setCell ⟨qg, g * 2, none⟩ (.slice ia s.H.length ic)).setCell ⟨qg, g * 2 + 1, none⟩ (.slice ja s.R.length jc) = wE2 from HWE2.out]
      clear HWE2 m0 m1 n0 n1 b0 b1
      have HF9 : Hd (Fr (fun _ => False) w wE2) := HFW.out.then hFs (fun j hj e => HNO.out j hj e)
      have HF8 : Hd (Fr (fun _ => False) wc wE2) := HG3.out.then hFs (fun j hj e => HNC.out j hj e)
      have hed := edges_any G _ _ (fs.set g h) (ss.set g s) (i : Int) wE2 HFAE.out HSSE.out HFP.out HFS.out (HT.out.stay HF9.out) (HR.out.1.stay HF9.out HR.out.2)
      have w2 : wE2.cell? ⟨X, 2, none⟩ = some (vI (i : Int)) := (hFs.cell (cell_lt q2) (HN0.out X (by omega))).trans q2
      have v0 : wE2.cell? ⟨Y, 0, none⟩ = some (vI G) := (hFs.cell (cell_lt z0) HNY.out).trans z0
      have v1 : wE2.cell? ⟨Y, 1, none⟩ = some (.slice (some ⟨pg, 0, none⟩) L.length pc) := (hFs.cell (cell_lt z0) HNY.out).trans z1
      have hi' : i < (fs.set g h).length := by rw [List.length_set]; exact hi
      have he' : (fs.set g h)[i] = fs[i] := by rw [List.getElem_set_ne hgi]
      have HAL : Hd (Alike fs[i].code fs (fs.set g h) ss (ss.set g s)) := alike_other fs[i].code HCX.out h s
      go_wp2_with fail
      refine hed.mono ?_
      rintro e wz hE
      obtain ⟨xv, xe, ee, hrel⟩ := hE.ans
      subst ee
      have HFz : Hd (Fr (fun _ => False) w wz) := HF9.out.trans hE.1
      obtain ⟨⟨z, ez, ez'⟩, ⟨a1, n1, c1, ex⟩, ⟨a2, n2, c2, ex'⟩, hcall⟩ := (HAN.out.stay (HF8.out.trans hE.1)).eq hrel hi hi' he' HAL.out
      subst ez ez' ex ex'
      clear hed hrel hE w2 v0 v1 z0 z1 q0 q1 q2 q3 x0 x1 x2 x3 y0 y1 HAN
      go_wp2_with fail
      refine hcall.mono ?_
      rintro _ wy ⟨rfl, hFy⟩
      go_wp2_with fail
      go_ret
      exact ⟨rfl, HFz.out.trans hFy⟩
end Go.Proofs.YtlmlmhinbkcpoaaDoor
