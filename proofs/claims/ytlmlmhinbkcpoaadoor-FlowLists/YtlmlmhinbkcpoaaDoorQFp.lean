import Derived.Test.YtlmlmhinbkcpoaaDoorQFnJ
import Derived.Test.YtlmlmhinbkcpoaaDoorQQ5J
import Derived.Test.YtlmlmhinbkcpoaaDoorQEo
namespace Go.Proofs.YtlmlmhinbkcpoaaDoor
open Go.RowKit (wrap32 wrap64)
set_option linter.unusedVariables false
set_option linter.unusedSimpArgs false

set_option maxRecDepth 100000 in
set_option maxHeartbeats 8000000 in
theorem lists_any (G : Int) (fv : Value) (fs : List PF) (F : Int) (sv : Value) (ss : List PS) (w : World) (h1 : FA w fv fs) (h2 : SsA w sv ss) (b1 : FineP fs) (b2 : FineS ss) (hT : Tab w) (hR : RowsA w) :
    Calls Tryd.prog 7 #[.agg #[vI G, fv, vI F, sv]] w fun e w' => e = .returned (.bool true) ∧ Fr (fun _ => False) w w' := by
  obtain ⟨E, z, hEl, hone⟩ := ede_one G fs F ss
  have hFa : Fr (fun _ => False) w (w.alloc (caseO G fv F sv)) := Fr.alloc (Fr.refl _ w) _
  have h0 : 0 < w.heap.size := by have := hT.lt; omega
  have hwk := works_any (w.alloc (caseO G fv F sv)) (hT.stay hFa) (hR.stay hFa h0).t
  have HB : Hd ((w.alloc (caseO G fv F sv)).heap[w.heap.size]? = some (caseO G fv F sv)) := heap_new w _
  have HFa : Hd (Fr (fun _ => False) w (w.alloc (caseO G fv F sv))) := hFa
  have HED : Hd (∀ W, Fr (fun _ => False) w W → Calls Tryd.prog 9 #[.agg #[vI G, fv], vI F, sv] W fun e w' => ∃ v, e = .returned (.tuple #[v, vI z]) ∧ EO w' W.heap.size v E ∧ Fr (fun _ => False) W w') := fun W f => (edges_any G fv sv fs ss F W (h1.stay f) (h2.stay f) b1 b2 (hT.stay f) (hR.stay f h0)).mono (fun e w' h => hone _ _ _ h)
  have HRD : Hd (∀ W, Fr (fun _ => False) w W → Calls Tryd.prog 27 #[.agg #[vI G, fv], vI F, sv] W fun e w' => ∃ v, e = .returned (.tuple #[v, vI z]) ∧ EO w' W.heap.size v E ∧ Fr (fun _ => False) W w') := fun W f => (redges_any G fv sv fs ss F W (h1.stay f) (h2.stay f) b1 b2).mono (fun e w' h => hone _ _ _ h)
  have HWK : Hd (∀ W, Fr (fun _ => False) w W → Calls Tryd.prog 8 #[] W fun e w' => e = .returned (.bool true) ∧ Fr (fun _ => False) W w') := fun W f => works_any W (hT.stay f) (hR.stay f h0).t
  obtain ⟨fa, fc, efv, -⟩ := h1
  obtain ⟨sa, sc, esv, -⟩ := h2
  subst efv esv
  clear hFa hT hR b1 b2 hone
  go_enter Tryd.func7, Tryd.ntmps7
  go_wp2_with fail
  refine hwk.mono ?_
  rintro _ w1 ⟨rfl, hF1⟩
  have HF1 : Hd (Fr (fun _ => False) w w1) := HFa.out.trans hF1
  obtain ⟨X, hX⟩ : ∃ X, X = w.heap.size := ⟨_, rfl⟩
  have HX : Hd (X = w.heap.size) := hX
  have HB1 : Hd (w1.heap[X]? = some (caseO G (.slice fa fs.length fc) F (.slice sa ss.length sc))) := by unfold Hd; rw [hX]; exact (hF1.block _ (heap_lt HB.out) (fun h => h)).trans HB.out
  have HC : Hd (∀ W, Fr (fun _ => False) w1 W → W.cell? ⟨X, 0, none⟩ = some (vI G) ∧ W.cell? ⟨X, 1, none⟩ = some (.slice fa fs.length fc) ∧ W.cell? ⟨X, 2, none⟩ = some (vI F) ∧ W.cell? ⟨X, 3, none⟩ = some (.slice sa ss.length sc)) := fun W f => by
    have hb := (f.block _ (heap_lt HB1.out) (fun h => h)).trans HB1.out
    exact ⟨by rw [cell_of hb]; rfl, by rw [cell_of hb]; rfl, by rw [cell_of hb]; rfl, by rw [cell_of hb]; rfl⟩
  obtain ⟨p0, p1, p2, p3⟩ := HC.out w1 (Fr.refl _ _)
  clear hF1 HFa HB hwk
  go_upto_region 2 with fail
  rw [← hX]
  clear hX
  go_wp2_with fail
  refine (HRD.out w1 HF1.out).mono ?_
  rintro _ w2 ⟨v4, rfl, hO4, hF2⟩
  have HG2 : Hd (Fr (fun _ => False) w1 w2) := hF2
  clear p0 p1 p2 p3
  obtain ⟨p0, p1, p2, p3⟩ := HC.out w2 HG2.out
  go_wp2_with fail
  refine (HED.out w2 (HF1.out.trans HG2.out)).mono ?_
  rintro _ w3 ⟨v6, rfl, hO6, hF3⟩
  have HG3 : Hd (Fr (fun _ => False) w1 w3) := HG2.out.trans hF3
  have HD3 : Hd (Fr (fun _ => False) w2 w3) := hF3
  have HO4 : Hd (EO w3 w1.heap.size v4 E ∧ (∀ g, v4.ownBlock = some g → g < w2.heap.size)) := ⟨hO4.stay hF3, fun g e => (World.ownsRow.lt hO4 g e).2⟩
  have HO6 : Hd (EO w3 w2.heap.size v6 E) := hO6
  clear p0 p1 p2 p3 hO4 hO6 hF2 hF3
  obtain ⟨p0, p1, p2, p3⟩ := HC.out w3 HG3.out
  go_wp2_with fail
  refine (HWK.out w3 (HF1.out.trans HG3.out)).mono ?_
  rintro _ w4 ⟨rfl, hF4⟩
  have HG4 : Hd (Fr (fun _ => False) w1 w4) := HG3.out.trans hF4
  have HD4 : Hd (Fr (fun _ => False) w3 w4) := hF4
  clear p0 p1 p2 p3 hF4
  obtain ⟨p0, p1, p2, p3⟩ := HC.out w4 HG4.out
  go_wp2_with fail
  refine (HED.out w4 (HF1.out.trans HG4.out)).mono ?_
  rintro _ w5 ⟨v9, rfl, hO9, hF5⟩
  have HG5 : Hd (Fr (fun _ => False) w1 w5) := HG4.out.trans hF5
  have HD5 : Hd (Fr (fun _ => False) w4 w5) := hF5
  have HO9 : Hd (EO w5 w4.heap.size v9 E) := hO9
  clear p0 p1 p2 p3 hF5 hO9
  obtain ⟨p0, p1, p2, p3⟩ := HC.out w5 HG5.out
  go_wp2_with fail
  refine (HED.out w5 (HF1.out.trans HG5.out)).mono ?_
  rintro _ w6 ⟨v11, rfl, hO11, hF6⟩
  have HG6 : Hd (Fr (fun _ => False) w1 w6) := HG5.out.trans hF6
  have HFw : Hd (Fr (fun _ => False) w w6) := HF1.out.trans HG6.out
  have HF4 : Hd (F4 w6 w.heap.size E.length v4 v6 v9 v11 E E E) := by
    have s1 := HF1.out.size
    have s2 := HG2.out.size
    have s3 := HG3.out.size
    have s4 := HD4.out.size
    have s5 := HD5.out.size
    have s6 := HD3.out.size
    refine ⟨World.ownsRow.mono (HO4.out.1.stay (HD4.out.trans (HD5.out.trans hF6))) s1, World.ownsRow.mono (HO6.out.stay (HD4.out.trans (HD5.out.trans hF6))) (by omega), World.ownsRow.mono (HO9.out.stay hF6) (by omega), World.ownsRow.mono hO11 (by omega), rfl, rfl, rfl, fun g e => ?_, fun g e => ?_⟩
    · have q := World.ownsRow.lt HO6.out g e
      refine ⟨fun e2 => ?_, fun e2 => ?_, fun e2 => ?_⟩
      · have := HO4.out.2 g e2; omega
      · have := (World.ownsRow.lt HO9.out g e2).1; omega
      · have := (World.ownsRow.lt hO11 g e2).1; omega
    · have q := World.ownsRow.lt HO9.out g e
      refine ⟨fun e2 => ?_, fun e2 => ?_, fun e2 => ?_⟩
      · have := HO4.out.2 g e2; omega
      · have := (World.ownsRow.lt HO6.out g e2).2; omega
      · have := (World.ownsRow.lt hO11 g e2).1; omega
  have HEQ : Hd (∀ W va vb, EO W w.heap.size va E → EO W w.heap.size vb E → Calls Tryd.prog 13 #[va, vb] W fun e w' => e = .returned (.bool true) ∧ Fr (fun _ => False) W w') := fun W va vb k1 k2 => eqEdges_same va vb E W (World.ownsRow.mono k1 (Nat.zero_le _)) (World.ownsRow.mono k2 (Nat.zero_le _)) (by omega)
  obtain ⟨a4, c4, e4⟩ := own_slice HF4.out.e4
  obtain ⟨a6, c6, e6⟩ := own_slice HF4.out.e6
  obtain ⟨a9, c9, e9⟩ := own_slice HF4.out.e9
  obtain ⟨a11, c11, e11⟩ := own_slice HF4.out.e11
  subst e4 e6 e9 e11
  clear p0 p1 p2 p3 hO11 hF6 HO4 HO6 HO9 HG2 HG3 HG4 HG5 HG6 HD3 HD4 HD5 HED HRD HWK HC HB1
  generalize hn : E.length = n at *
  obtain ⟨i7, hi7, hz7, hs7, hb7⟩ := info_parts (P := Tryd.prog) (e := 47) (z := .agg #[vI 0, vI 0, vI 0]) (size := 3) (bytes := 24) (by kernel_rfl)
  go_wp2_with fail
  refine (HEQ.out w6 _ _ HF4.out.e6 HF4.out.e4).mono ?_
  rintro _ w7 ⟨rfl, hF7⟩
  have HF7 : Hd (F4 w7 w.heap.size n (.slice a4 n c4) (.slice a6 n c6) (.slice a9 n c9) (.slice a11 n c11) E (List.replicate 0 (-7, 0, 0) ++ E.drop 0) E) := HF4.out.stay hF7
  have HW7 : Hd (Fr (fun _ => False) w w7) := HFw.out.trans hF7
  clear hF7 HF4 HFw
  go_wp2_with fail
  go_loopw [14] (fun v14 wr => ∃ (i : Nat), v14 = .int .i64 i ∧ i ≤ n ∧ Hd (F4 wr w.heap.size n (.slice a4 n c4) (.slice a6 n c6) (.slice a9 n c9) (.slice a11 n c11) E (List.replicate i (-7, 0, 0) ++ E.drop i) E) ∧ Hd (Fr (fun _ => False) w wr)) (fun v _ => match v with | .int _ q => n - q.toNat | _ => 0)
  case atStart => exact ⟨0, rfl, by omega, HF7, HW7⟩
  case round =>
    obtain ⟨i, rfl, hi, HS, HFr⟩ := hrel
    by_cases hlt : i < n
    · have hiA : i < (List.replicate i ((-7, 0, 0) : Ed) ++ E.drop i).length := by rw [HS.out.l6]; exact hlt
      have HRS : Hd ((List.replicate i ((-7, 0, 0) : Ed) ++ E.drop i).set i (-7, 0, 0) = List.replicate (i + 1) (-7, 0, 0) ++ E.drop (i + 1)) := rep_set _ E i (by omega)
      obtain ⟨g, cap, e1, hgK, hgl, x0, x1, x2⟩ := HS.out.e6.at hiA
      rw [HS.out.l6] at e1
      injection e1 with e1 e2 e3
      subst e1 e3
      have z0 : wr.frozen? ⟨g, i * 3, none⟩ = false := by have h := HS.out.e6; rw [← HS.out.l6] at h; exact h.frz _
      have z1 : wr.frozen? ⟨g, i * 3 + 1, none⟩ = false := by have h := HS.out.e6; rw [← HS.out.l6] at h; exact h.frz _
      have z2 : wr.frozen? ⟨g, i * 3 + 2, none⟩ = false := by have h := HS.out.e6; rw [← HS.out.l6] at h; exact h.frz _
      have HN : Hd (F4 (((wr.setCell ⟨g, i * 3, none⟩ (vI (-7))).setCell ⟨g, i * 3 + 1, none⟩ (vI 0)).setCell ⟨g, i * 3 + 2, none⟩ (vI 0)) w.heap.size n (.slice a4 n c4) (.slice (some ⟨g, 0, none⟩) n c6) (.slice a9 n c9) (.slice a11 n c11) E (List.replicate (i + 1) (-7, 0, 0) ++ E.drop (i + 1)) E) := by
        have h := HS.out.set6 hlt (-7, 0, 0)
        rw [HRS.out] at h
        exact h
      have HFn : Hd (Fr (fun _ => False) w (((wr.setCell ⟨g, i * 3, none⟩ (vI (-7))).setCell ⟨g, i * 3 + 1, none⟩ (vI 0)).setCell ⟨g, i * 3 + 2, none⟩ (vI 0))) := HFr.out.then (set3_fr wr g (i * 3) (-7, 0, 0)) (fun j hj e => by have e : j = g := e; omega)
      have hi0 : (0 : Int) ≤ i := by omega
      have hi1 : (i : Int) < n := by omega
      go_wp2_with fail
      exact ⟨⟨i + 1, castE i, hlt, HN, HFn⟩, measE hlt⟩
    · have hdi : decide ((i : Int) < n) = false := by simp; omega
      obtain rfl : n = i := by omega
      obtain ⟨A, hA⟩ : ∃ A, A = List.replicate n ((-7, 0, 0) : Ed) ++ E.drop n := ⟨_, rfl⟩
      have HA7 : Hd (∀ q (h : q < A.length), q < n → A[q].1 = -7) := fun q h hq => by
        subst hA
        rw [rep_get (-7, 0, 0) E hn hq h]
      have HSA : Hd (F4 wr w.heap.size n (.slice a4 n c4) (.slice a6 n c6) (.slice a9 n c9) (.slice a11 n c11) E A E) := by rw [hA]; exact HS
      clear hA HS HF7 HW7
      go_wp2_with fail
      clear hdi
      go_loopw [15, 16] (fun v15 v16 wr => ∃ (j : Nat), v16 = .int .i64 j ∧ j ≤ 64 ∧ Hd (F4 wr w.heap.size n (.slice a4 n c4) (.slice a6 n c6) (.slice a9 n c9) (.slice a11 n c11) E A E) ∧ Hd (EO wr w.heap.size v15 (A ++ List.replicate j (0, -8, 0))) ∧ Hd (Fr (fun _ => False) w wr)) (fun _ v _ => match v with | .int _ q => 64 - q.toNat | _ => 0)
      case atStart => exact ⟨0, rfl, by omega, HSA, by rw [List.replicate_zero, List.append_nil]; exact HSA.out.e6, HFr⟩
      case round =>
        obtain ⟨j, rfl, hj, HS, HM, HFr⟩ := hrel
        by_cases hjl : j < 64
        · have HL : Hd ((A ++ List.replicate j ((0, -8, 0) : Ed)).length = n + j) := by unfold Hd; rw [List.length_append, List.length_replicate, HS.out.l6]
          have HTK : Hd (A ++ List.replicate (j + 1) ((0, -8, 0) : Ed) = (A ++ List.replicate j (0, -8, 0)) ++ [(0, -8, 0)]) := by unfold Hd; rw [List.replicate_succ', List.append_assoc]
          generalize A ++ List.replicate j ((0, -8, 0) : Ed) = M at *
          obtain ⟨ea, ec, ee⟩ := own_slice HM.out
          subst ee
          have HFn : Hd (Fr (fun _ => False) wr (wr.alloc (.cells #[vI 0, vI (-8), vI 0] 47))) := Fr.alloc (Fr.refl _ wr) _
          have HRW : Hd ((wr.alloc (.cells #[vI 0, vI (-8), vI 0] 47)).ownsRow w.heap.size 47 3 (.slice ea M.length ec) M.length (M.flatMap edC)) := HM.out.stay HFn.out
          have hnews : ∀ j u, [vI 0, vI (-8), vI 0][j]? = some u → (wr.alloc (.cells #[vI 0, vI (-8), vI 0] 47)).cell? ((⟨wr.heap.size, 0, none⟩ : Addr).add j) = some u :=
            World.news_of_block (cs := #[vI 0, vI (-8), vI 0]) (heap_new wr _)
          have hbase : w.heap.size ≤ (wr.alloc (.cells #[vI 0, vI (-8), vI 0] 47)).heap.size := (HFr.out.trans HFn.out).size
          have hj1 : (j : Int) < 64 := by omega
          go_wp2_with ((at_builtin; refine Hd.out ?_))
          unfold Hd
          refine wpList_append_keeps rfl (.tmp 82) (.tmp 84) 36 rfl w.heap.size 47 i7 (.agg #[vI 0, vI 0, vI 0]) 3 24 under36 hi7 hz7 hs7 hb7 rfl (by omega) (.slice ea M.length ec) M.length _ rfl HRW.out ⟨wr.heap.size, 0, none⟩ 1 1 [vI 0, vI (-8), vI 0] rfl rfl hnews (by intro u hu; simp at hu; rcases hu with rfl | rfl | rfl <;> rfl) (by omega) (by have := HL.out; unfold maxLen; omega) (by have := HL.out; omega) hbase (wr.heap.size + 1) (by simp) ?_
          intro g6 cap6 w6 hown6 hgrow6 hat6 hlt6 hkeep6
          obtain ⟨o1, o2⟩ := EO.grow (x := (0, -8, 0)) HM.out HFn.out hgrow6 hown6 HFr.out (Nat.le_refl _)
          have HQ1 : Hd (EO w6 w.heap.size (.slice (some ⟨g6, 0, none⟩) (M.length + 1) cap6) (A ++ List.replicate (j + 1) (0, -8, 0))) := by unfold Hd; rw [HTK.out]; exact o1
          have HQ2 : Hd (Fr (fun _ => False) w w6) := o2
          have HQ3 : Hd (F4 w6 w.heap.size n (.slice a4 n c4) (.slice a6 n c6) (.slice a9 n c9) (.slice a11 n c11) E A E) := (HS.out.stay HFn.out).keeps (N := M.length) (fun B k cap0 g0 ys hr hk => hkeep6 B k cap0 g0 ys hr (fun _ => hk)) (by have := HL.out; omega)
          clear hown6 hgrow6 hat6 hlt6 hkeep6 o1 o2 hnews hbase HRW
          go_wp2_with fail
          exact ⟨⟨j + 1, castE j, hjl, HQ3, HQ1, HQ2⟩, measE hjl⟩
        · have hdj : decide ((j : Int) < 64) = false := by simp; omega
          obtain rfl : j = 64 := by omega
          have hl := HS.out.l6
          obtain ⟨mA, dA, em⟩ := own_slice HM.out
          rw [List.length_append, List.length_replicate, hl] at em
          subst em
          clear HM hl HSA
          have hq1 := HEQ.out wr _ _ HS.out.e9 HS.out.e4
          go_wp2_with fail
          refine hq1.mono ?_
          rintro _ w8 ⟨rfl, hF8⟩
          have HF8 : Hd (F4 w8 w.heap.size n (.slice a4 n c4) (.slice a6 n c6) (.slice a9 n c9) (.slice a11 n c11) E A (List.replicate 0 (-9, 0, 0) ++ E.drop 0)) := HS.out.stay hF8
          have HW8 : Hd (Fr (fun _ => False) w w8) := HFr.out.trans hF8
          clear hF8 HS HFr hq1 hdj
          go_wp2_with fail
          go_loopw [18] (fun v18 wr => ∃ (i : Nat), v18 = .int .i64 i ∧ i ≤ n ∧ Hd (F4 wr w.heap.size n (.slice a4 n c4) (.slice a6 n c6) (.slice a9 n c9) (.slice a11 n c11) E A (List.replicate i (-9, 0, 0) ++ E.drop i)) ∧ Hd (Fr (fun _ => False) w wr)) (fun v _ => match v with | .int _ q => n - q.toNat | _ => 0)
          case atStart => exact ⟨0, rfl, by omega, HF8, HW8⟩
          case round =>
            obtain ⟨i, rfl, hi, HS, HFr⟩ := hrel
            by_cases hlt : i < n
            · have hiA : i < (List.replicate i ((-9, 0, 0) : Ed) ++ E.drop i).length := by rw [HS.out.l9]; exact hlt
              have HRS : Hd ((List.replicate i ((-9, 0, 0) : Ed) ++ E.drop i).set i (-9, 0, 0) = List.replicate (i + 1) (-9, 0, 0) ++ E.drop (i + 1)) := rep_set _ E i (by omega)
              obtain ⟨g, cap, e1, hgK, hgl, x0, x1, x2⟩ := HS.out.e9.at hiA
              rw [HS.out.l9] at e1
              injection e1 with e1 e2 e3
              subst e1 e3
              have z0 : wr.frozen? ⟨g, i * 3, none⟩ = false := by have h := HS.out.e9; rw [← HS.out.l9] at h; exact h.frz _
              have z1 : wr.frozen? ⟨g, i * 3 + 1, none⟩ = false := by have h := HS.out.e9; rw [← HS.out.l9] at h; exact h.frz _
              have z2 : wr.frozen? ⟨g, i * 3 + 2, none⟩ = false := by have h := HS.out.e9; rw [← HS.out.l9] at h; exact h.frz _
              have HN : Hd (F4 (((wr.setCell ⟨g, i * 3, none⟩ (vI (-9))).setCell ⟨g, i * 3 + 1, none⟩ (vI 0)).setCell ⟨g, i * 3 + 2, none⟩ (vI 0)) w.heap.size n (.slice a4 n c4) (.slice a6 n c6) (.slice (some ⟨g, 0, none⟩) n c9) (.slice a11 n c11) E A (List.replicate (i + 1) (-9, 0, 0) ++ E.drop (i + 1))) := by
                have h := HS.out.set9 hlt (-9, 0, 0)
                rw [HRS.out] at h
                exact h
              have HFn : Hd (Fr (fun _ => False) w (((wr.setCell ⟨g, i * 3, none⟩ (vI (-9))).setCell ⟨g, i * 3 + 1, none⟩ (vI 0)).setCell ⟨g, i * 3 + 2, none⟩ (vI 0))) := HFr.out.then (set3_fr wr g (i * 3) (-9, 0, 0)) (fun j hj e => by have e : j = g := e; omega)
              have hi0 : (0 : Int) ≤ i := by omega
              have hi1 : (i : Int) < n := by omega
              go_wp2_with fail
              exact ⟨⟨i + 1, castE i, hlt, HN, HFn⟩, measE hlt⟩
            · have hdi : decide ((i : Int) < n) = false := by simp; omega
              obtain rfl : n = i := by omega
              obtain ⟨B, hB⟩ : ∃ B, B = List.replicate n ((-9, 0, 0) : Ed) ++ E.drop n := ⟨_, rfl⟩
              have HSB : Hd (F4 wr w.heap.size n (.slice a4 n c4) (.slice a6 n c6) (.slice a9 n c9) (.slice a11 n c11) E A B) := by rw [hB]; exact HS
              clear hB HS HF8 HW8
              go_wp2_with fail
              clear hdi
              go_loopw [19, 20] (fun v15 v16 wr => ∃ (j : Nat), v16 = .int .i64 j ∧ j ≤ 64 ∧ Hd (F4 wr w.heap.size n (.slice a4 n c4) (.slice a6 n c6) (.slice a9 n c9) (.slice a11 n c11) E A B) ∧ Hd (EO wr w.heap.size v15 (B ++ List.replicate j (0, -10, 0))) ∧ Hd (Fr (fun _ => False) w wr)) (fun _ v _ => match v with | .int _ q => 64 - q.toNat | _ => 0)
              case atStart => exact ⟨0, rfl, by omega, HSB, by rw [List.replicate_zero, List.append_nil]; exact HSB.out.e9, HFr⟩
              case round =>
                obtain ⟨j, rfl, hj, HS, HM, HFr⟩ := hrel
                by_cases hjl : j < 64
                · have HL : Hd ((B ++ List.replicate j ((0, -10, 0) : Ed)).length = n + j) := by unfold Hd; rw [List.length_append, List.length_replicate, HS.out.l9]
                  have HTK : Hd (B ++ List.replicate (j + 1) ((0, -10, 0) : Ed) = (B ++ List.replicate j (0, -10, 0)) ++ [(0, -10, 0)]) := by unfold Hd; rw [List.replicate_succ', List.append_assoc]
                  generalize B ++ List.replicate j ((0, -10, 0) : Ed) = M at *
                  obtain ⟨ea, ec, ee⟩ := own_slice HM.out
                  subst ee
                  have HFn : Hd (Fr (fun _ => False) wr (wr.alloc (.cells #[vI 0, vI (-10), vI 0] 47))) := Fr.alloc (Fr.refl _ wr) _
                  have HRW : Hd ((wr.alloc (.cells #[vI 0, vI (-10), vI 0] 47)).ownsRow w.heap.size 47 3 (.slice ea M.length ec) M.length (M.flatMap edC)) := HM.out.stay HFn.out
                  have hnews : ∀ j u, [vI 0, vI (-10), vI 0][j]? = some u → (wr.alloc (.cells #[vI 0, vI (-10), vI 0] 47)).cell? ((⟨wr.heap.size, 0, none⟩ : Addr).add j) = some u :=
                    World.news_of_block (cs := #[vI 0, vI (-10), vI 0]) (heap_new wr _)
                  have hbase : w.heap.size ≤ (wr.alloc (.cells #[vI 0, vI (-10), vI 0] 47)).heap.size := (HFr.out.trans HFn.out).size
                  have hj1 : (j : Int) < 64 := by omega
                  go_wp2_with ((at_builtin; refine Hd.out ?_))
                  unfold Hd
                  refine wpList_append_keeps rfl (.tmp 104) (.tmp 106) 36 rfl w.heap.size 47 i7 (.agg #[vI 0, vI 0, vI 0]) 3 24 under36 hi7 hz7 hs7 hb7 rfl (by omega) (.slice ea M.length ec) M.length _ rfl HRW.out ⟨wr.heap.size, 0, none⟩ 1 1 [vI 0, vI (-10), vI 0] rfl rfl hnews (by intro u hu; simp at hu; rcases hu with rfl | rfl | rfl <;> rfl) (by omega) (by have := HL.out; unfold maxLen; omega) (by have := HL.out; omega) hbase (wr.heap.size + 1) (by simp) ?_
                  intro g6 cap6 w6 hown6 hgrow6 hat6 hlt6 hkeep6
                  obtain ⟨o1, o2⟩ := EO.grow (x := (0, -10, 0)) HM.out HFn.out hgrow6 hown6 HFr.out (Nat.le_refl _)
                  have HQ1 : Hd (EO w6 w.heap.size (.slice (some ⟨g6, 0, none⟩) (M.length + 1) cap6) (B ++ List.replicate (j + 1) (0, -10, 0))) := by unfold Hd; rw [HTK.out]; exact o1
                  have HQ2 : Hd (Fr (fun _ => False) w w6) := o2
                  have HQ3 : Hd (F4 w6 w.heap.size n (.slice a4 n c4) (.slice a6 n c6) (.slice a9 n c9) (.slice a11 n c11) E A B) := (HS.out.stay HFn.out).keeps (N := M.length) (fun B k cap0 g0 ys hr hk => hkeep6 B k cap0 g0 ys hr (fun _ => hk)) (by have := HL.out; omega)
                  clear hown6 hgrow6 hat6 hlt6 hkeep6 o1 o2 hnews hbase HRW
                  go_wp2_with fail
                  exact ⟨⟨j + 1, castE j, hjl, HQ3, HQ1, HQ2⟩, measE hjl⟩
                · have hdj : decide ((j : Int) < 64) = false := by simp; omega
                  obtain rfl : j = 64 := by omega
                  have hl := HS.out.l9
                  obtain ⟨mB, dB, em⟩ := own_slice HM.out
                  rw [List.length_append, List.length_replicate, hl] at em
                  subst em
                  clear HM hl HSB
                  have hq2 := HEQ.out wr _ _ HS.out.e11 HS.out.e4
                  have hw64 : IntKind.i64.wrap ((n : Int) + 64) = (n : Int) + 64 := wrap_small _ (by omega) (by omega)
                  have hc64 : ((n + 64 : Nat) : Int) = (n : Int) + 64 := by omega
                  go_wp2_with fail
                  refine hq2.mono ?_
                  rintro _ w9 ⟨rfl, hF9⟩
                  have HF9 : Hd (F4 w9 w.heap.size n (.slice a4 n c4) (.slice a6 n c6) (.slice a9 n c9) (.slice a11 n c11) E A B) := HS.out.stay hF9
                  have HW9 : Hd (Fr (fun _ => False) w w9) := HFr.out.trans hF9
                  clear hF9 HS HFr hq2 hdj
                  go_wp2_with fail
                  go_loopw [17, 21] (fun v17 v21 wr => ∃ (i : Nat), v17 = .bool true ∧ v21 = .int .i64 i ∧ i ≤ n ∧ Hd (F4 wr w.heap.size n (.slice a4 n c4) (.slice a6 n c6) (.slice a9 n c9) (.slice a11 n c11) E A B) ∧ Hd (Fr (fun _ => False) w wr)) (fun _ v _ => match v with | .int _ q => n - q.toNat | _ => 0)
                  case atStart => exact ⟨0, rfl, rfl, by omega, HF9, HW9⟩
                  case round =>
                    obtain ⟨i, rfl, rfl, hi, HS, HFr⟩ := hrel
                    by_cases hlt : i < n
                    · have hiA : i < A.length := by rw [HS.out.l6]; exact hlt
                      obtain ⟨g, cap, e1, hgK, hgl, x0, x1, x2⟩ := HS.out.e6.at hiA
                      rw [HS.out.l6] at e1
                      injection e1 with e1 e2 e3
                      subst e1 e3
                      rw [HA7.out i hiA hlt] at x0
                      have hi0 : (0 : Int) ≤ i := by omega
                      have hi1 : (i : Int) < n := by omega
                      go_wp2_with fail
                      exact ⟨⟨i + 1, rfl, castE i, hlt, HS, HFr⟩, measE hlt⟩
                    · have hdi : decide ((i : Int) < n) = false := by simp; omega
                      go_wp2_with fail
                      go_ret
                      exact ⟨rfl, HFr.out⟩
end Go.Proofs.YtlmlmhinbkcpoaaDoor
