import Derived.Test.YtlmlmhinbkcpoaaDoorQEzJ
import Derived.Deep.DeepCutAuto
import Derived.StillTail
import Derived.StillTailTactics
import Derived.BigQuiet
namespace Go.Proofs.YtlmlmhinbkcpoaaDoor
open Go.RowKit (wrap32 wrap64)
set_option linter.unusedVariables false
set_option linter.unusedSimpArgs false

theorem SsA.heapAt {w : World} {vb : Value} {bs : List PS} {i : Nat} (h : SsA w vb bs) (hi : i < bs.length) :
    ∃ g o cap hv rv, vb = .slice (some ⟨g, o, none⟩) bs.length cap ∧ w.cell? ⟨g, o + i * 2, none⟩ = some hv ∧ w.cell? ⟨g, o + i * 2 + 1, none⟩ = some rv ∧
      (∀ k (hk : k < bs[i].H.length), ∃ hg ho hc, hv = .slice (some ⟨hg, ho, none⟩) bs[i].H.length hc ∧ w.cell? ⟨hg, ho + k, none⟩ = some (vI bs[i].H[k])) ∧
      (∀ k (hk : k < bs[i].R.length), ∃ rg ro rc u, rv = .slice (some ⟨rg, ro, none⟩) bs[i].R.length rc ∧ w.cell? ⟨rg, ro + k, none⟩ = some u ∧
        ∀ j (hj : j < bs[i].R[k].length), ∃ ug uo uc, u = .slice (some ⟨ug, uo, none⟩) bs[i].R[k].length uc ∧ w.cell? ⟨ug, uo + j, none⟩ = some (vI bs[i].R[k][j])) := by
  obtain ⟨a, c, e, h⟩ := h
  obtain ⟨g, o, rfl, -, h⟩ := h (by intro e; rw [e] at hi; simp at hi)
  obtain ⟨hv, rv, c0, c1, h1, h2⟩ := h i hi
  refine ⟨g, o, c, hv, rv, e, c0, c1, fun k hk => ?_, fun k hk => ?_⟩
  · obtain ⟨a1, c1, e1, h1⟩ := h1
    obtain ⟨g1, o1, rfl, -, h1⟩ := h1 (by intro e; rw [e] at hk; simp at hk)
    exact ⟨g1, o1, c1, e1, h1 k hk⟩
  · obtain ⟨a2, c2, e2, h2⟩ := h2
    obtain ⟨g2, o2, rfl, -, h2⟩ := h2 (by intro e; rw [e] at hk; simp at hk)
    obtain ⟨u, hu, h3⟩ := h2 k hk
    refine ⟨g2, o2, c2, u, e2, hu, fun j hj => ?_⟩
    obtain ⟨a3, c3, e3, h3⟩ := h3
    obtain ⟨g3, o3, rfl, -, h3⟩ := h3 (by intro e; rw [e] at hj; simp at hj)
    exact ⟨g3, o3, c3, e3, h3 j hj⟩

set_option maxRecDepth 100000 in
set_option maxHeartbeats 4000000 in
theorem above_any (va vb : Value) (al bs : List PS) (w : World) (h1 : SsA w va al) (h2 : SsA w vb bs) (b1 : FineS al) (hl : bs.length = al.length) (hs : ∀ i (h : i < al.length) (h' : i < bs.length), Sm al[i] bs[i]) (ha : ∀ s ∈ al, (∀ d ∈ s.H, derOk d = true) ∧ (∀ l ∈ s.R, ∀ d ∈ l, derOk d = true)) :
    Calls Tryd.prog 17 #[va, vb] w fun e w' => ∃ v', e = .returned v' ∧ Abv w v' al w' := by
  have H2 : Hd (SsA w vb bs) := h2
  have HB : Hd (FineS al) := b1
  have HS : Hd (∀ i (h : i < al.length) (h' : i < bs.length), Sm al[i] bs[i]) := hs
  have hbl := b1.1
  have hct := copySumsP_any va al w h1 b1
  obtain ⟨aa, ac, eva, -⟩ := h1
  obtain ⟨ba, bc, evb, -⟩ := h2
  subst eva evb
  have HA : Hd (∀ s ∈ al, (∀ d ∈ s.H, derOk d = true) ∧ (∀ l ∈ s.R, ∀ d ∈ l, derOk d = true)) := ha
  clear b1 hs ha
  go_enter Tryd.func17, Tryd.ntmps17
  go_wp2_with fail
  refine hct.mono ?_
  rintro _ w1 ⟨v, L0, rfl, hP, hM, hF1⟩
  have hL0 : L0.length = al.length := by rw [← hM, List.length_map]
  obtain ⟨oa, oc, ev⟩ := own_slice hP.so.row
  rw [hL0] at ev
  subst ev
  have HI : Hd (Abv w (.slice oa al.length oc) al w1) := ⟨L0, hP, ⟨hL0, fun i h h' => by
    have e : L0[i].1 = al[i] := by
      have e : (L0.map (·.1))[i]? = al[i]? := by rw [hM]
      rw [List.getElem?_map, List.getElem?_eq_getElem h, List.getElem?_eq_getElem h'] at e
      simpa using e
    rw [e]
    have := HA.out _ (List.getElem_mem h')
    exact Okk.refl this.1 this.2⟩, hF1⟩
  clear hct hP hM hF1 hL0
  go_wp2_with fail
  go_loopw [6] (fun v6 wr => ∃ (i : Nat), v6 = .int .i64 i ∧ i ≤ al.length ∧ Hd (Abv w (.slice oa al.length oc) al wr)) (fun v _ => match v with | .int _ q => al.length - q.toNat | _ => 0)
  case atStart => exact ⟨0, rfl, by omega, HI⟩
  case round =>
    obtain ⟨i, rfl, hi, HAb⟩ := hrel
    by_cases hlt : i < al.length
    · have hib : i < bs.length := by omega
      have hi0 : (0 : Int) ≤ i := by omega
      have hi1 : (i : Int) < al.length := by omega
      have hi2 : (i : Int) < bs.length := by omega
      have HSm : Hd (Sm al[i] bs[i]) := HS.out i hlt hib
      have hn3 := (HB.out.2 _ (List.getElem_mem hlt)).1
      obtain ⟨n, en⟩ : ∃ n, n = al[i].H.length := ⟨_, rfl⟩
      have HN : Hd (n = al[i].H.length) := en
      rw [← en] at hn3
      clear en
      go_wp2_with fail
      go_loopw [7] (fun v7 wr => ∃ (k : Nat), v7 = .int .i64 k ∧ k ≤ n ∧ Hd (Abv w (.slice oa al.length oc) al wr)) (fun v _ => match v with | .int _ q => n - q.toNat | _ => 0)
      case atStart => exact ⟨0, rfl, by omega, HAb⟩
      case round =>
        obtain ⟨k, rfl, hk, HAb⟩ := hrel
        obtain ⟨g, cap, hv, rv, eo, c0, c1, ⟨xa, xc, exv⟩, ⟨ya, yc, eyv⟩, HH, HR⟩ := HAb.out.heapAt hlt
        injection eo with e1 e2 e3
        subst e1 e3
        rw [← HN.out] at exv HH
        by_cases hkn : k < n
        · obtain ⟨hg, hc, d, e4, hB, c2, z2, HW⟩ := HH k hkn
          have HW : Hd (∀ x, x ≤ d → derOk x = true → Abv w (.slice (some ⟨g, 0, none⟩) al.length oc) al (wr.setCell ⟨hg, k, none⟩ (vI x))) := HW
          subst e4
          obtain ⟨wx, rfl⟩ : ∃ wx, wx = wr := ⟨_, rfl⟩
          have HFr : Hd (Fr (fun _ => False) w wx) := by obtain ⟨_, _, _, h⟩ := HAb.out; exact h
          have HB2 : Hd (SsA wx (.slice ba bs.length bc) bs) := H2.out.stay HFr.out
          obtain ⟨bg, bo, bcap, bhv, brv, eb, b0, b1, BH, BR⟩ := HB2.out.heapAt hib
          injection eb with e1 e2 e3
          subst e1 e3
          have hkb : k < bs[i].H.length := by rw [HSm.out.hh, ← HN.out]; exact hkn
          obtain ⟨bhg, bho, bhc, e5, b2⟩ := BH k hkb
          have HDK : Hd (derOk bs[i].H[k] = true) := HSm.out.bh _ (List.getElem_mem hkb)
          subst e5
          have hbn : (k : Int) < bs[i].H.length := by omega
          generalize bs[i].H[k] = d' at *
          have hk0 : (0 : Int) ≤ k := by omega
          have hk1 : (k : Int) < n := by omega
          have HRb : Hd _ := BR
          clear BH BR HH HR eyv
          go_upto_region 8 with fail
          go_quiet (fail)
          go_upto_if 43 with fail
          obtain ⟨W, hW⟩ : ∃ W, W = wx.drewN nq := ⟨_, rfl⟩
          have HFd : Hd (Fr (fun _ => False) wx W) := by unfold Hd; rw [hW]; exact ⟨rfl, rfl, rfl, Nat.le_refl _, fun _ _ _ => rfl⟩
          have c0 := (HFd.out.cell (cell_lt c0) (fun h => h)).trans c0
          have c2 := (HFd.out.cell (cell_lt c2) (fun h => h)).trans c2
          have b0 := (HFd.out.cell (cell_lt b0) (fun h => h)).trans b0
          have b2 := (HFd.out.cell (cell_lt b2) (fun h => h)).trans b2
          have z2 : W.frozen? ⟨hg, k, none⟩ = false := by rw [hW]; exact z2
          have HAW : Hd (Abv w (.slice (some ⟨g, 0, none⟩) al.length oc) al W) := HAb.out.same HFd.out
          have HWW : Hd (∀ x, x ≤ d → derOk x = true → Abv w (.slice (some ⟨g, 0, none⟩) al.length oc) al (W.setCell ⟨hg, k, none⟩ (vI x))) := fun x hx hd => by
            have := HW.out x hx hd
            rw [hW]
            exact this.same ⟨rfl, rfl, rfl, Nat.le_refl _, fun _ _ _ => rfl⟩
          rw [← hW]
          clear hW HW HB2
          go_cut [] from 17 to 115 (fun wy => Hd (Abv w (.slice (some ⟨g, 0, none⟩) al.length oc) al wy))
          case first =>
            by_cases hdd : d' < d
            · have hdt : decide (d' < d) = true := by simpa using hdd
              go_upto_region 9 with fail
              refine wp_region_still_tail 15 mixed (by kernel_rfl) ?_
              simp only [List.take_succ_cons, List.take_zero, List.drop_succ_cons, List.drop_zero]
              repeat still_step
              refine wpStill_nil ?_
              go_wp2_with fail
              go_meet
              exact (HWW.out d' (by omega) HDK.out).same ⟨rfl, rfl, rfl, Nat.le_refl _, fun _ _ _ => rfl⟩
            · have hdt : decide (d' < d) = false := by simpa using hdd
              go_wp2_with fail
              go_meet
              exact HAW
          case rest =>
            have HAc : Hd (Abv w (.slice (some ⟨g, 0, none⟩) al.length oc) al wc) := hcut
            clear c0 c1 c2 z2 b0 b1 b2 HAb HAW HWW HFd HFr HDK
            go_wp2_with fail
            have hkR : k < al[i].R.length := by rw [HSm.out.hr, ← HN.out]; exact hkn
            have hkRb : k < bs[i].R.length := by rw [HSm.out.hr', ← HN.out]; exact hkn
            have HLk : Hd (bs[i].R[k].length = al[i].R[k].length) := HSm.out.hl k hkR hkRb
            obtain ⟨m, em⟩ : ∃ m, m = al[i].R[k].length := ⟨_, rfl⟩
            have HM : Hd (m = al[i].R[k].length) := em
            have hm3 : m ≤ 17592186043904 := by rw [em]; exact (HB.out.2 _ (List.getElem_mem hlt)).2.2 _ (List.getElem_mem hkR)
            have hkr1 : (k : Int) < al[i].R.length := by omega
            have hkr2 : (k : Int) < bs[i].R.length := by omega
            clear em HRb
            go_loopw [8] (fun v8 wr => ∃ (j : Nat), v8 = .int .i64 j ∧ j ≤ m ∧ Hd (Abv w (.slice (some ⟨g, 0, none⟩) al.length oc) al wr)) (fun v _ => match v with | .int _ q => m - q.toNat | _ => 0)
            case atStart => exact ⟨0, rfl, by omega, HAc⟩
            case round =>
              obtain ⟨j, rfl, hj, HAb⟩ := hrel
              obtain ⟨g', cap', hv', rv', eo, f0, f1, -, -, -, HRR⟩ := HAb.out.heapAt hlt
              injection eo with e1 e2 e3
              obtain rfl : g = g' := by simpa using e1
              subst e3
              obtain ⟨rg, rc, u, e4, f2, ⟨ua, uc, eu⟩, HRW⟩ := HRR k hkR
              subst e4
              rw [← HM.out] at eu HRW
              by_cases hjm : j < m
              · obtain ⟨ug, uc', d3, e5, hB3, f3, z3, HW⟩ := HRW j hjm
                have HW : Hd (∀ x, x ≤ d3 → derOk x = true → Abv w (.slice (some ⟨g, 0, none⟩) al.length oc) al (wr.setCell ⟨ug, j, none⟩ (vI x))) := HW
                subst e5
                have HFr : Hd (Fr (fun _ => False) w wr) := by obtain ⟨_, _, _, h⟩ := HAb.out; exact h
                obtain ⟨bg', bo', bcap', bhv', brv', eb, a0, a1, -, BR⟩ := (H2.out.stay HFr.out).heapAt hib
                injection eb with e1 e2 e3
                injection e1 with e1
                injection e1 with e1 e4 e5
                subst e1 e4 e3
                obtain ⟨brg, bro, brc, bu, e6, a2, BU⟩ := BR k hkRb
                subst e6
                have hjb : j < bs[i].R[k].length := by rw [HLk.out, ← HM.out]; exact hjm
                obtain ⟨bug, buo, buc, e7, a3⟩ := BU j hjb
                subst e7
                have HDJ : Hd (derOk bs[i].R[k][j] = true) := HSm.out.br _ (List.getElem_mem hkRb) _ (List.getElem_mem hjb)
                have hjb1 : (j : Int) < bs[i].R[k].length := by omega
                generalize bs[i].R[k][j] = d4 at *
                have hj0 : (0 : Int) ≤ j := by omega
                have hj1 : (j : Int) < m := by omega
                clear BR BU HRR HRW eu
                go_upto_region 13 with fail
                go_quiet (fail)
                go_upto_if 94 with fail
                obtain ⟨W, hW⟩ : ∃ W, W = wr.drewN nq := ⟨_, rfl⟩
                have HFd : Hd (Fr (fun _ => False) wr W) := by unfold Hd; rw [hW]; exact ⟨rfl, rfl, rfl, Nat.le_refl _, fun _ _ _ => rfl⟩
                have f1 := (HFd.out.cell (cell_lt f1) (fun h => h)).trans f1
                have f2 := (HFd.out.cell (cell_lt f2) (fun h => h)).trans f2
                have f3 := (HFd.out.cell (cell_lt f3) (fun h => h)).trans f3
                have a1 := (HFd.out.cell (cell_lt a1) (fun h => h)).trans a1
                have a2 := (HFd.out.cell (cell_lt a2) (fun h => h)).trans a2
                have a3 := (HFd.out.cell (cell_lt a3) (fun h => h)).trans a3
                have z3 : W.frozen? ⟨ug, j, none⟩ = false := by rw [hW]; exact z3
                have HAW : Hd (Abv w (.slice (some ⟨g, 0, none⟩) al.length oc) al W) := HAb.out.same HFd.out
                have HWW : Hd (∀ x, x ≤ d3 → derOk x = true → Abv w (.slice (some ⟨g, 0, none⟩) al.length oc) al (W.setCell ⟨ug, j, none⟩ (vI x))) := fun x hx hd => by
                  have := HW.out x hx hd
                  rw [hW]
                  exact this.same ⟨rfl, rfl, rfl, Nat.le_refl _, fun _ _ _ => rfl⟩
                rw [← hW]
                clear hW HW
                by_cases hdd : d4 < d3
                · have hdt : decide (d4 < d3) = true := by simpa using hdd
                  go_upto_region 14 with fail
                  refine wp_region_still_tail 21 mixed (by kernel_rfl) ?_
                  simp only [List.take_succ_cons, List.take_zero, List.drop_succ_cons, List.drop_zero]
                  repeat still_step
                  refine wpStill_nil ?_
                  go_wp2_with fail
                  exact ⟨⟨j + 1, castK j, hjm, (HWW.out d4 (by omega) HDJ.out).same ⟨rfl, rfl, rfl, Nat.le_refl _, fun _ _ _ => rfl⟩⟩, measK hjm⟩
                · have hdt : decide (d4 < d3) = false := by simpa using hdd
                  go_wp2_with fail
                  exact ⟨⟨j + 1, castK j, hjm, HAW⟩, measK hjm⟩
              · have hdj : decide ((j : Int) < m) = false := by simp; omega
                subst eu
                go_wp2_with fail
                exact ⟨⟨k + 1, castK k, hkn, HAb⟩, measK hkn⟩
        · have hdk : decide ((k : Int) < n) = false := by simp; omega
          subst exv
          go_wp2_with fail
          exact ⟨⟨i + 1, castK i, hlt, HAb⟩, measK hlt⟩
    · have hdi : decide ((i : Int) < al.length) = false := by simp; omega
      go_wp2_with fail
      go_ret
      exact ⟨_, rfl, HAb.out⟩
end Go.Proofs.YtlmlmhinbkcpoaaDoor

namespace Go.Proofs.YtlmlmhinbkcpoaaDoor
open Go.RowKit (wrap32 wrap64)
set_option linter.unusedVariables false
set_option linter.unusedSimpArgs false

set_option maxRecDepth 100000 in
set_option maxHeartbeats 8000000 in
theorem rises_any (G : Int) (fv : Value) (fs : List PF) (F : Int) (sv : Value) (ss : List PS) (ov : Value) (os : List PS) (w : World) (h1 : FA w fv fs) (h2 : SsA w sv ss) (h3 : SsA w ov os) (b1 : FineP fs) (b2 : FineS ss) (b3 : FineS os) (hT : Tab w) (hR : RowsA w) :
    Calls Tryd.prog 5 #[.agg #[vI G, fv, vI F, sv], ov] w fun e w' => e = .returned (.bool true) ∧ Fr (fun _ => False) w w' := by
  have hFa : Fr (fun _ => False) w (w.alloc (caseO G fv F sv)) := Fr.alloc (Fr.refl _ w) _
  have h0 : 0 < w.heap.size := by have := hT.lt; omega
  have hwk := works_any (w.alloc (caseO G fv F sv)) (hT.stay hFa) (hR.stay hFa h0).t
  have HB : Hd ((w.alloc (caseO G fv F sv)).heap[w.heap.size]? = some (caseO G fv F sv)) := heap_new w _
  have HFa : Hd (Fr (fun _ => False) w (w.alloc (caseO G fv F sv))) := hFa
  have H1 : Hd (FA w fv fs) := h1
  have H2 : Hd (SsA w sv ss) := h2
  have H3 : Hd (SsA w ov os) := h3
  have HP : Hd (FineP fs) := b1
  have HS : Hd (FineS ss) := b2
  have HO : Hd (FineS os) := b3
  have HT : Hd (Tab w) := hT
  have HR : Hd (RowsA w ∧ 0 < w.heap.size) := ⟨hR, h0⟩
  obtain ⟨fa, fc, efv, -⟩ := h1
  obtain ⟨sa, sc, esv, -⟩ := h2
  obtain ⟨oa, oc, eov, -⟩ := h3
  subst efv esv eov
  clear hFa hT hR b1 b2 b3
  go_enter Tryd.func5, Tryd.ntmps5
  go_wp2_with fail
  refine hwk.mono ?_
  rintro _ w1 ⟨rfl, hF1⟩
  have HF1 : Hd (Fr (fun _ => False) w w1) := HFa.out.trans hF1
  obtain ⟨X, hX⟩ : ∃ X, X = w.heap.size := ⟨_, rfl⟩
  have HX : Hd (X = w.heap.size) := hX
  have HB1 : Hd (w1.heap[X]? = some (caseO G (.slice fa fs.length fc) F (.slice sa ss.length sc))) := by unfold Hd; rw [hX]; exact (hF1.block _ (heap_lt HB.out) (fun h => h)).trans HB.out
  have HC : Hd (∀ W, Fr (fun _ => False) w1 W → W.cell? ⟨X, 0, none⟩ = some (vI G) ∧ W.cell? ⟨X, 1, none⟩ = some (.slice fa fs.length fc) ∧ W.cell? ⟨X, 2, none⟩ = some (vI F) ∧ W.cell? ⟨X, 3, none⟩ = some (.slice sa ss.length sc)) := fun W f => by
    have hb := (f.block _ (heap_lt HB1.out) (fun h => h)).trans HB1.out
    exact ⟨by rw [cell_of hb]; rfl, by rw [cell_of hb]; rfl, by rw [cell_of hb]; rfl, by rw [cell_of hb]; rfl⟩
  obtain ⟨p0, p1, p2, p3⟩ := HC.out w1 (Fr.refl _ _)
  have hr1 := lright_any G _ _ fs ss w1 (H1.out.stay HF1.out) (H2.out.stay HF1.out) HP.out HS.out
  clear hF1 HFa HB hwk
  go_upto_region 2 with fail
  rw [← hX]
  clear hX
  go_wp2_with fail
  refine hr1.mono ?_
  rintro _ w2 ⟨rfl, hF2⟩
  have HF2 : Hd (Fr (fun _ => False) w w2) := HF1.out.trans hF2
  have HG2 : Hd (Fr (fun _ => False) w1 w2) := hF2
  clear hr1 p0 p1 p2 p3 hF2
  cases hg1 : rgtX fs ss with
  | false =>
    go_wp2_with fail
    go_ret
    exact ⟨rfl, HF2.out⟩
  | true =>
  have HG : Hd (RgtP fs ss) := rgtP_of hg1
  obtain ⟨p0, p1, p2, p3⟩ := HC.out w2 HG2.out
  have hr2 := lright_any G _ _ fs os w2 (H1.out.stay HF2.out) (H3.out.stay HF2.out) HP.out HO.out
  clear hg1
  go_wp2_with fail
  refine hr2.mono ?_
  rintro _ w3 ⟨rfl, hF3⟩
  have HF3 : Hd (Fr (fun _ => False) w w3) := HF2.out.trans hF3
  have HG3 : Hd (Fr (fun _ => False) w1 w3) := HG2.out.trans hF3
  clear hr2 p0 p1 p2 p3 hF3 HG2 HF2
  cases hg2 : rgtX fs os with
  | false =>
    go_wp2_with fail
    go_ret
    exact ⟨rfl, HF3.out⟩
  | true =>
  have HGO : Hd (RgtP fs os) := rgtP_of hg2
  have HLEN : Hd (os.length = ss.length) := by unfold Hd; rw [HGO.out.len, HG.out.len]
  obtain ⟨p0, p1, p2, p3⟩ := HC.out w3 HG3.out
  clear hg2
  go_upto_region 4 with fail
  go_cut [6, 7] (fun x4 x5 wx => Hd (Fr (fun _ => False) w3 wx) ∧ Hd (Ans G fs F ss wx x4 x5))
  case first =>
    go_region_held3 (fun w' => w'.cell? ⟨X, 0, none⟩ = some (vI G) ∧ w'.cell? ⟨X, 1, none⟩ = some (.slice fa fs.length fc) ∧ w'.cell? ⟨X, 2, none⟩ = some (vI F) ∧ w'.cell? ⟨X, 3, none⟩ = some (.slice sa ss.length sc)) (go_keep) ((
      first
        | (go_at_call 10
           refine (show Calls Tryd.prog 10 #[.agg #[vI G, .slice fa fs.length fc]] _ _ from copyProgram_any G _ fs _ (by first | exact H1.out.stay (HF3.out.trans ((Fr.refl (fun _ => False) w3).drew)) | exact H1.out.stay (HF3.out.trans HGb.out)) HP.out).mono ?_
           rintro e wx ⟨pv, rfl, hpo, hfx⟩
           have HPO : Hd (FA wx pv fs) := hpo
           obtain ⟨pa, pc, epv, -⟩ := hpo
           subst epv
           have HGa : Hd (Fr (fun _ => False) w3 wx) := by first | exact (Fr.drew (Fr.refl _ _)).trans hfx | exact HGb.out.trans hfx
           obtain ⟨s0, s1, s2, s3⟩ := HC.out wx (HG3.out.trans HGa.out)
           have HFXa : Hd _ := hfx
           clear hfx)
        | (go_at_call 11
           refine (show Calls Tryd.prog 11 #[.slice sa ss.length sc] _ _ from copySums_any _ ss _ (by first | exact H2.out.stay (HF3.out.trans ((Fr.refl (fun _ => False) w3).drew)) | exact H2.out.stay (HF3.out.trans HGa.out)) HS.out).mono ?_
           rintro e wy ⟨qv, Lq, rfl, hqo, hLq, hfy⟩
           have HQO : Hd (SsA wy qv ss) := by have := hqo.sa; rw [hLq] at this; exact this
           obtain ⟨qa, qc, eqv⟩ := own_slice hqo.row
           subst eqv
           have HGb : Hd (Fr (fun _ => False) w3 wy) := by first | exact (Fr.drew (Fr.refl _ _)).trans hfy | exact HGa.out.trans hfy
           obtain ⟨t0, t1, t2, t3⟩ := HC.out wy (HG3.out.trans HGb.out)
           have HFXb : Hd _ := hfy
           clear hqo hLq hfy)
        | (go_at_call 9
           refine (show Calls Tryd.prog 9 #[.agg #[vI G, .slice pa fs.length pc], vI F, .slice qa Lq.length qc] _ _ from edges_any G _ _ fs ss F _ (by first | exact HPO.out | exact HPO.out.stay HFXb.out) (by first | exact HQO.out | exact HQO.out.stay HFXa.out) HP.out HS.out (HT.out.stay (HF3.out.trans (by first | exact HGa.out | exact HGb.out))) (HR.out.1.stay (HF3.out.trans (by first | exact HGa.out | exact HGb.out)) HR.out.2)).mono ?_
           rintro e wz hE
           obtain ⟨xv, xe, ee, hrel⟩ := hE.ans
           subst ee
           have HREL : Hd (Ans G fs F ss wz xv xe) := hrel
           have HGz : Hd (Fr (fun _ => False) w3 wz) := Fr.trans (by first | exact HGb.out | exact HGa.out) hE.1
           obtain ⟨r0, r1, r2, r3⟩ := HC.out wz (HG3.out.trans HGz.out)
           clear hE hrel)))
    all_goals
      go_wp2_with fail
      go_meet
      exact ⟨HGz, HREL⟩
  case rest =>
  obtain ⟨HGc, HAN⟩ := hcut
  have HF4 : Hd (Fr (fun _ => False) w wc) := HF3.out.trans HGc.out
  have HG4 : Hd (Fr (fun _ => False) w1 wc) := HG3.out.trans HGc.out
  have HSM : Hd (∀ i (h : i < ss.length) (h' : i < os.length), Sm ss[i] os[i]) := fun i h h' => sm_of HG.out HGO.out i h h'
  have HDR : Hd (∀ s ∈ ss, (∀ d ∈ s.H, derOk d = true) ∧ (∀ l ∈ s.R, ∀ d ∈ l, derOk d = true)) := fun s hs => by
    obtain ⟨i, hi, rfl⟩ := List.mem_iff_getElem.1 hs
    have := fits_len (HG.out.fit i hi (by rw [← HG.out.len]; exact hi))
    exact ⟨this.2.2.2.1, this.2.2.2.2⟩
  clear p0 p1 p2 p3
  obtain ⟨p0, p1, p2, p3⟩ := HC.out wc HG4.out
  go_upto_region 5 with fail
  go_cut [8, 9] (fun x4 x5 wx => Hd (Fr (fun _ => False) wc wx) ∧ ∃ ss' : List PS, Hd (ss'.length = ss.length) ∧ Hd (∀ q (h : q < ss'.length) (h' : q < ss.length), Okk ss'[q] ss[q]) ∧ Hd (Ans G fs F ss' wx x4 x5))
  case first =>
    go_region_held3 (fun w' => w'.cell? ⟨X, 0, none⟩ = some (vI G) ∧ w'.cell? ⟨X, 1, none⟩ = some (.slice fa fs.length fc) ∧ w'.cell? ⟨X, 2, none⟩ = some (vI F) ∧ w'.cell? ⟨X, 3, none⟩ = some (.slice sa ss.length sc)) (go_keep) ((
      first
        | (go_at_call 10
           refine (show Calls Tryd.prog 10 #[.agg #[vI G, .slice fa fs.length fc]] _ _ from copyProgram_any G _ fs _ (by first | exact H1.out.stay (HF4.out.trans ((Fr.refl (fun _ => False) wc).drew)) | exact H1.out.stay (HF4.out.trans HGb.out)) HP.out).mono ?_
           rintro e wx ⟨pv, rfl, hpo, hfx⟩
           have HPO : Hd (FA wx pv fs) := hpo
           obtain ⟨pa, pc, epv, -⟩ := hpo
           subst epv
           have HGa : Hd (Fr (fun _ => False) wc wx) := by first | exact (Fr.drew (Fr.refl _ _)).trans hfx | exact HGb.out.trans hfx
           obtain ⟨s0, s1, s2, s3⟩ := HC.out wx (HG4.out.trans HGa.out)
           have HFXa : Hd _ := hfx
           clear hfx)
        | (go_at_call 17
           refine (show Calls Tryd.prog 17 #[.slice sa ss.length sc, .slice oa os.length oc] _ _ from above_any _ _ ss os _ (by first | exact H2.out.stay (HF4.out.trans ((Fr.refl (fun _ => False) wc).drew)) | exact H2.out.stay (HF4.out.trans HGa.out)) (by first | exact H3.out.stay (HF4.out.trans ((Fr.refl (fun _ => False) wc).drew)) | exact H3.out.stay (HF4.out.trans HGa.out)) HS.out HLEN.out HSM.out HDR.out).mono ?_
           rintro e wy ⟨qv, rfl, hab⟩
           obtain ⟨ss', hsa, hfs, hl', hok', hfy⟩ := hab.lies HS.out
           have HQO : Hd (SsA wy qv ss') := hsa
           have HFS : Hd (FineS ss') := hfs
           have HL' : Hd (ss'.length = ss.length) := hl'
           have HOK : Hd (∀ q (h : q < ss'.length) (h' : q < ss.length), Okk ss'[q] ss[q]) := hok'
           obtain ⟨qa, qc, eqv, -⟩ := hsa
           subst eqv
           have HGb : Hd (Fr (fun _ => False) wc wy) := by first | exact (Fr.drew (Fr.refl _ _)).trans hfy | exact HGa.out.trans hfy
           obtain ⟨t0, t1, t2, t3⟩ := HC.out wy (HG4.out.trans HGb.out)
           have HFXb : Hd _ := hfy
           clear hab hfs hl' hok' hfy)
        | (go_at_call 9
           refine (show Calls Tryd.prog 9 #[.agg #[vI G, .slice pa fs.length pc], vI F, .slice qa ss'.length qc] _ _ from edges_any G _ _ fs ss' F _ (by first | exact HPO.out | exact HPO.out.stay HFXb.out) (by first | exact HQO.out | exact HQO.out.stay HFXa.out) HP.out HFS.out (HT.out.stay (HF4.out.trans (by first | exact HGa.out | exact HGb.out))) (HR.out.1.stay (HF4.out.trans (by first | exact HGa.out | exact HGb.out)) HR.out.2)).mono ?_
           rintro e wz hE
           obtain ⟨xv, xe, ee, hrel⟩ := hE.ans
           subst ee
           have HREL : Hd (Ans G fs F ss' wz xv xe) := hrel
           have HGz : Hd (Fr (fun _ => False) wc wz) := Fr.trans (by first | exact HGb.out | exact HGa.out) hE.1
           obtain ⟨r0, r1, r2, r3⟩ := HC.out wz (HG4.out.trans HGz.out)
           clear hE hrel)))
    all_goals
      go_wp2_with fail
      go_meet
      exact ⟨HGz, ss', HL', HOK, HREL⟩
  case rest =>
  obtain ⟨HGd, ss', HL', HOK, HAN'⟩ := hcut
  obtain ⟨⟨z, ez, ez'⟩, ⟨a1, n1, c1, ex⟩, ⟨a2, n2, c2, ex'⟩, hcall⟩ := (HAN.out.stay HGd.out).rises HAN'.out HG.out HL'.out HOK.out
  subst ez ez' ex ex'
  clear HAN HAN' p0 p1 p2 p3
  go_wp2_with fail
  refine hcall.mono ?_
  rintro _ wy ⟨rfl, hFy⟩
  go_wp2_with fail
  go_ret
  exact ⟨rfl, (HF4.out.trans HGd.out).trans hFy⟩
end Go.Proofs.YtlmlmhinbkcpoaaDoor
