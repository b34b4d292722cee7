import Derived.Test.YtlmlmhinbkcpoaaDoorQFk
import Derived.Test.YtlmlmhinbkcpoaaDoorQFm
import Derived.Test.YtlmlmhinbkcpoaaDoorQEzJ
import Derived.Test.YtlmlmhinbkcpoaaDoorQEjJ
import Derived.BigQuiet
import Derived.Test.YtlmlmhinbkcpoaaDoorQLhJ
namespace Go.Proofs.YtlmlmhinbkcpoaaDoor
open Go.RowKit (wrap32 wrap64)
set_option linter.unusedVariables false
set_option linter.unusedSimpArgs false

theorem ede_bad {G : Int} {fs : List PF} {F : Int} {ss : List PS} {w w' : World} (h : ¬ EdgOk G fs F ss) (f : Fr (fun _ => False) w w') : EdgE G fs F ss w (.returned (.tuple #[.slice none 0 0, vI 1])) w' := ⟨f, Or.inl ⟨h, rfl⟩⟩
theorem ede_ok {G : Int} {fs : List PF} {i : Nat} {ss : List PS} {w w' : World} {v : Value} (hi : i < fs.length) (h1 : ss.length = fs.length) (h2 : checkP G (aloneP fs fs[i]) = 0) (h3 : toldX fs ss fs[i].code = true) (ho : EO w' w.heap.size v (edgX ss fs[i])) (f : Fr (fun _ => False) w w') : EdgE G fs i ss w (.returned (.tuple #[v, vI 0])) w' := ⟨f, Or.inr ⟨i, hi, rfl, h1, h2, h3, v, rfl, ho⟩⟩
theorem all_take {α : Type} (l : List α) (p : α → Bool) (k : Nat) (h : k < l.length) : (l.take (k + 1)).all p = ((l.take k).all p && p l[k]) := by
  rw [List.take_succ_eq_append_getElem h, List.all_append]
  simp
/-- The edges of the first k instructions. -/
def edgK (ss : List PS) (f : PF) (k : Nat) : List Ed := (List.range k).flatMap fun j => edgI ss f.R f.V (clX f.R f.V f.code j) (f.code.getD j dPI)
theorem edgK_succ {ss : List PS} {f : PF} {k : Nat} (h : k < f.code.length) : edgK ss f (k + 1) = edgK ss f k ++ edgI ss f.R f.V (clX f.R f.V f.code k) f.code[k] := by
  unfold edgK
  rw [flat_succ]
  simp [h]
theorem edgK_le {ss : List PS} {f : PF} {k : Nat} (h : k ≤ f.code.length) : (edgK ss f k).length ≤ (edgX ss f).length := flat_mono _ h
/-- Edges that lie: the cells of the i-th. -/
theorem EO.at {w : World} {B : Nat} {v : Value} {E : List Ed} (h : EO w B v E) {j : Nat} (hj : j < E.length) : ∃ g cap, v = .slice (some ⟨g, 0, none⟩) E.length cap ∧ B ≤ g ∧ g < w.heap.size ∧ w.cell? ⟨g, j * 3, none⟩ = some (vI E[j].1) ∧ w.cell? ⟨g, j * 3 + 1, none⟩ = some (vI E[j].2.1) ∧ w.cell? ⟨g, j * 3 + 2, none⟩ = some (vI E[j].2.2) := by
  obtain ⟨g, cap, e, hg, x0⟩ := own_cell h (j := j * 3 + 0) (u := vI E[j].1) (by rw [flat_get edC 3 (fun _ => rfl) E j 0 hj (by omega)]; rfl)
  obtain ⟨g1, cap1, e1, -, x1⟩ := own_cell h (j := j * 3 + 1) (u := vI E[j].2.1) (by rw [flat_get edC 3 (fun _ => rfl) E j 1 hj (by omega)]; rfl)
  obtain ⟨g2, cap2, e2, -, x2⟩ := own_cell h (j := j * 3 + 2) (u := vI E[j].2.2) (by rw [flat_get edC 3 (fun _ => rfl) E j 2 hj (by omega)]; rfl)
  subst e
  cases e1
  cases e2
  exact ⟨g, cap, rfl, (World.ownsRow.lt h g rfl).1, hg, x0, x1, x2⟩

set_option maxRecDepth 100000 in
set_option maxHeartbeats 8000000 in
theorem redges_any (G : Int) (fv sv : Value) (fs : List PF) (ss : List PS) (F : Int) (w : World) (h1 : FA w fv fs) (h2 : SsA w sv ss) (b1 : FineP fs) (b2 : FineS ss) :
    Calls Tryd.prog 27 #[.agg #[vI G, fv], vI F, sv] w (EdgE G fs F ss w) := by
  obtain ⟨X, hX⟩ : ∃ X, X = w.heap.size := ⟨_, rfl⟩
  have HX : Hd (X = w.heap.size) := hX
  obtain ⟨w1, hw1⟩ : ∃ w1, w1 = w.alloc (.cells #[vI G, fv] 24) := ⟨_, rfl⟩
  have HW1 : Hd (w1 = w.alloc (.cells #[vI G, fv] 24)) := hw1
  have hFa : Fr (fun _ => False) w w1 := by rw [hw1]; exact Fr.alloc (Fr.refl _ w) _
  have k1 : w1.heap[X]? = some (.cells #[vI G, fv] 24) := by rw [hw1, hX]; exact heap_new w _
  have HFa : Hd (Fr (fun _ => False) w w1) := hFa
  have H1 : Hd (∀ W, Fr (fun _ => False) w1 W → FA W fv fs) := fun W f => h1.stay (hFa.trans f)
  have H2 : Hd (∀ W, Fr (fun _ => False) w1 W → SsA W sv ss) := fun W f => h2.stay (hFa.trans f)
  have HB1 : Hd (FineP fs) := b1
  have HB2 : Hd (FineS ss) := b2
  have HP : Hd (∀ W, Fr (fun _ => False) w1 W → W.cell? ⟨X, 0, none⟩ = some (vI G) ∧ W.cell? ⟨X, 1, none⟩ = some fv) := fun W f => by
    have b := (f.block _ (heap_lt k1) (fun h => h)).trans k1
    exact ⟨by rw [cell_of b]; rfl, by rw [cell_of b]; rfl⟩
  have hct := ralone_any G fv fs F w1 (h1.stay hFa) b1
  obtain ⟨c0, c1⟩ := HP.out w1 (Fr.refl _ _)
  obtain ⟨fa, fc, efv, -⟩ := h1
  obtain ⟨sa, sc, esv, -⟩ := h2
  subst efv esv
  clear hw1 hFa k1 hX b1 b2
  go_enter Tryd.func27, Tryd.ntmps27
  go_upto_region 1 with fail
  rw [← HW1.out, ← HX.out]
  clear HW1
  go_wp2_with fail
  refine hct.mono ?_
  rintro e w2 ⟨b, rfl, hb, hF2⟩
  have HF2 : Hd (Fr (fun _ => False) w1 w2) := hF2
  have HFw : Hd (Fr (fun _ => False) w w2) := HFa.out.trans hF2
  clear hct c0 c1 hF2
  obtain ⟨c0, c1⟩ := HP.out w2 HF2.out
  have HAL : Hd (EdgOk G fs F ss → b = true) := fun ⟨i, e, hi, _, k, _⟩ => hb.2 ⟨i, e, hi, (alone_iff G fs fs[i]).1 k⟩
  cases b with
  | false =>
    have HN : Hd (¬ EdgOk G fs F ss) := fun h => by have := HAL.out h; cases this
    clear hb HAL
    go_wp2_with fail
    refine bodyPost_ret (results_tmp2 Tryd.results27 _ _ _) rfl ?_
    exact ede_bad HN.out HFw.out
  | true =>
  obtain ⟨i, rfl, hi, hal⟩ := hb.1 rfl
  have HCK : Hd (checkP G (aloneP fs fs[i]) = 0) := (alone_iff G fs fs[i]).2 hal
  clear hb HAL hal
  by_cases hls : ss.length = fs.length
  · have hd1 : ((ss.length : Int) != (fs.length : Int)) = false := by simp [hls]
    have HLS : Hd (ss.length = fs.length) := hls
    obtain ⟨a', c', e', hff⟩ := H1.out w2 HF2.out
    cases e'
    obtain ⟨fk, fo, efa, hfk, hff⟩ := hff (by intro e; rw [e] at hi; simp at hi)
    obtain ⟨cv, p0, p1, p2, p3, hcv⟩ := hff i hi
    subst efa
    obtain ⟨w3, hw3⟩ : ∃ w3, w3 = w2.alloc (.cells #[vI fs[i].P, vI fs[i].R, vI fs[i].V, cv] 30) := ⟨_, rfl⟩
    have HW3 : Hd (w3 = w2.alloc (.cells #[vI fs[i].P, vI fs[i].R, vI fs[i].V, cv] 30)) := hw3
    have hF3 : Fr (fun _ => False) w2 w3 := by rw [hw3]; exact Fr.alloc (Fr.refl _ w2) _
    obtain ⟨Y, hY⟩ : ∃ Y, Y = w2.heap.size := ⟨_, rfl⟩
    have HY : Hd (Y = w2.heap.size) := hY
    have k3 : w3.heap[Y]? = some (.cells #[vI fs[i].P, vI fs[i].R, vI fs[i].V, cv] 30) := by rw [hw3, hY]; exact heap_new w2 _
    have HF3 : Hd (Fr (fun _ => False) w1 w3) := HF2.out.trans hF3
    have HFz : Hd (Fr (fun _ => False) w w3) := HFa.out.trans HF3.out
    have HCV : Hd (∀ W, Fr (fun _ => False) w3 W → CA W cv fs[i].code) := fun W f => hcv.stay (hF3.trans f)
    have HQ : Hd (∀ W, Fr (fun _ => False) w3 W → W.cell? ⟨Y, 0, none⟩ = some (vI fs[i].P) ∧ W.cell? ⟨Y, 1, none⟩ = some (vI fs[i].R) ∧ W.cell? ⟨Y, 2, none⟩ = some (vI fs[i].V) ∧ W.cell? ⟨Y, 3, none⟩ = some cv) := fun W f => by
      have b := (f.block _ (heap_lt k3) (fun h => h)).trans k3
      exact ⟨by rw [cell_of b]; rfl, by rw [cell_of b]; rfl, by rw [cell_of b]; rfl, by rw [cell_of b]; rfl⟩
    have HFR : Hd (FunR fs fs[i]) := right_ok HCK.out
    have hln : fs[i].code.length ≤ 4096 := HFR.out.len.2
    have HTB : Hd (toldX fs ss fs[i].code = false → ¬ EdgOk G fs i ss) := fun e ⟨q, hq, hqf, _, _, ht⟩ => by
      obtain rfl : i = q := by omega
      rw [e] at ht
      cases ht
    have HEND : Hd (∀ w' v, toldX fs ss fs[i].code = true → EO w' w.heap.size v (edgX ss fs[i]) → Fr (fun _ => False) w w' → EdgE G fs i ss w (.returned (.tuple #[v, vI 0])) w') := fun w' v ht ho f => ede_ok hi HLS.out HCK.out ht ho f
    have hi0 : (0 : Int) ≤ i := by omega
    have hi1 : (i : Int) < fs.length := by omega
    obtain ⟨ca, cc, ecv, -⟩ := hcv
    clear hff hw3 hY k3 hF3 hls
    generalize fs[i] = f at *
    subst ecv
    go_upto_region 5 with fail
    rw [← HW3.out, ← HY.out]
    clear HW3 c0 c1 p0 p1 p2 p3 hd1
    go_wp2_with fail
    go_loopw [11] (fun v wr => ∃ (k : Nat), v = .int .i64 k ∧ k ≤ f.code.length ∧ Hd (Fr (fun _ => False) w3 wr) ∧ Hd ((f.code.take k).all (fitI fs ss) = true)) (fun v _ => match v with | .int _ q => f.code.length - q.toNat | _ => 0)
    case atStart => exact ⟨0, rfl, by omega, Fr.refl _ _, rfl⟩
    case round =>
      obtain ⟨k, rfl, hk, HFr, HT⟩ := hrel
      obtain ⟨r0, r1, r2, r3⟩ := HQ.out wr HFr.out
      obtain ⟨c0, c1⟩ := HP.out wr (HF3.out.trans HFr.out)
      by_cases hlt : k < f.code.length
      · obtain ⟨a', c', e', hcc⟩ := HCV.out wr HFr.out
        cases e'
        obtain ⟨ck, co, rfl, hck, hcc⟩ := hcc (by intro e; rw [e] at hlt; simp at hlt)
        obtain ⟨av, rv, o0, o1, o2, o3, o4, o5, o6, -, -⟩ := hcc k hlt
        have HS := all_take f.code (fitI fs ss) k hlt
        have HBD : Hd (fitI fs ss f.code[k] = false → toldX fs ss f.code = false) := fun e => List.all_eq_false.2 ⟨_, List.getElem_mem hlt, by rw [e]; decide⟩
        have HCL := HFR.out.call f.code[k] (List.getElem_mem hlt)
        have hk0 : (0 : Int) ≤ k := by omega
        have hk1 : (k : Int) < f.code.length := by omega
        clear hcc hck
        generalize f.code[k] = c at *
        by_cases h11 : c.op = 11
        · have hop : (c.op == 11) = true := by simpa using h11
          obtain ⟨q, hq, hqf, -⟩ := HCL h11
          have hqs : q < ss.length := by have := HLS.out; omega
          obtain ⟨a', c', e', hff⟩ := H1.out wr (HF3.out.trans HFr.out)
          cases e'
          obtain ⟨fk', fo', e'', hfk', hff⟩ := hff (by intro e; rw [e] at hqf; simp at hqf)
          cases e''
          obtain ⟨gv, v0, v1, v2, v3, hgv⟩ := hff q hqf
          obtain ⟨ga, gc, egv, -⟩ := hgv
          subst egv
          obtain ⟨a', c', e', hss⟩ := H2.out wr (HF3.out.trans HFr.out)
          cases e'
          obtain ⟨sk, so, rfl, hsk, hss⟩ := hss (by intro e; rw [e] at hqs; simp at hqs)
          obtain ⟨hv, lv, s0, s1, hH, hL⟩ := hss q hqs
          obtain ⟨bs1, bs2, bs3⟩ := HB2.out.2 ss[q] (List.getElem_mem hqs)
          have hct := rright_any hv lv ss[q] fs[q].P fs[q].R fs[q].V ga fs[q].code.length gc wr.drew (hH.stay (Fr.refl (fun _ => False) wr).drew) (hL.stay (Fr.refl (fun _ => False) wr).drew) bs1 (by omega) bs3
          have hfi : fitI fs ss c = fitsX ss[q] fs[q].P fs[q].R := by
            unfold fitI
            rw [if_pos h11, hq]
            simp [hqf, hqs]
          obtain ⟨ha, hc, rfl, -⟩ := hH
          obtain ⟨la, lc, rfl, -⟩ := hL
          rw [hq] at o4
          have hq0 : (0 : Int) ≤ q := by omega
          have hq1 : (q : Int) < fs.length := by omega
          have hq2 : (q : Int) < ss.length := by omega
          rw [hfi] at HS HBD
          clear hff hss bs1 bs2 bs3 hfi HCL hq
          generalize hfx : fitsX ss[q] fs[q].P fs[q].R = fx at *
          clear hfx
          generalize fs[q] = g at *
          generalize ss[q] = s at *
          go_upto_region 9 with fail
          refine wp_region_still_tail 27 mixed (by kernel_rfl) ?_
          simp only [List.take_succ_cons, List.take_zero, List.drop_succ_cons, List.drop_zero]
          repeat still_step
          refine wpStill_nil ?_
          go_wp2_with fail
          refine hct.mono ?_
          rintro _ w6 ⟨rfl, hF6⟩
          have HF6 : Hd (Fr (fun _ => False) w3 w6) := HFr.out.trans (((Fr.refl (fun _ => False) wr).drew).trans hF6)
          clear hct hF6 s0 s1 v0 v1 v2 v3 o0 o1 o2 o3 o4 o5 o6 r0 r1 r2 r3 c0 c1
          cases fx with
          | true =>
            have HT2 : Hd ((f.code.take (k + 1)).all (fitI fs ss) = true) := by unfold Hd; rw [HS, HT.out]; rfl
            clear HS HBD
            go_wp2_with fail
            exact ⟨⟨k + 1, castE k, hlt, HF6, HT2⟩, measE hlt⟩
          | false =>
            have HN : Hd (¬ EdgOk G fs i ss) := HTB.out (HBD.out rfl)
            clear HS HBD
            go_wp2_with fail
            refine bodyPost_ret (results_tmp2 Tryd.results27 _ _ _) rfl ?_
            exact ede_bad HN.out (HFz.out.trans HF6.out)
        · have hop : (c.op == 11) = false := by simpa using h11
          have HT2 : Hd ((f.code.take (k + 1)).all (fitI fs ss) = true) := by
            unfold Hd
            rw [HS, HT.out]
            unfold fitI
            rw [if_neg h11]
            rfl
          clear HS HBD HCL
          go_upto_region 9 with fail
          go_quiet (fail)
          go_wp2_with fail
          exact ⟨⟨k + 1, castE k, hlt, HFr.out.trans ⟨rfl, rfl, rfl, Nat.le_refl _, fun _ _ _ => rfl⟩, HT2⟩, measE hlt⟩
      · have hdk : decide ((k : Int) < f.code.length) = false := by simp; omega
        have HTD : Hd (toldX fs ss f.code = true) := by
          have h := HT.out
          rw [List.take_of_length_le (by omega)] at h
          exact h
        have HXL : Hd ((edgX ss f).length ≤ 163840) := edgX_len HFR.out HTD.out HLS.out
        obtain ⟨i7, hi7, hz7, hs7, hb7⟩ := info_parts (P := Tryd.prog) (e := 47) (z := .agg #[vI 0, vI 0, vI 0]) (size := 3) (bytes := 24) (by kernel_rfl)
        clear hk HT
        go_wp2_with fail
        clear r0 r1 r2 r3 c0 c1 hdk
        go_loopw [10, 12] (fun v10 v12 wq => ∃ (k : Nat), v12 = .int .i64 k ∧ k ≤ f.code.length ∧ Hd (EO wq w3.heap.size v10 (edgK ss f k)) ∧ Hd (Fr (fun _ => False) w3 wq)) (fun _ v _ => match v with | .int _ q => f.code.length - q.toNat | _ => 0)
        case atStart => exact ⟨0, rfl, by omega, EO.nil _ _, HFr⟩
        case round =>
          obtain ⟨k, rfl, hk, HE, HFq⟩ := hrel
          obtain ⟨r0, r1, r2, r3⟩ := HQ.out wr HFq.out
          by_cases hlt : k < f.code.length
          · have hct := rins_any fs f (.slice ca f.code.length cc) k (.slice sa ss.length sc) ss wr (HCV.out wr HFq.out) (H2.out wr (HF3.out.trans HFq.out)) HFR.out HTD.out HLS.out HB2.out hlt
            have HKS : Hd (edgK ss f (k + 1) = edgK ss f k ++ edgI ss f.R f.V (clX f.R f.V f.code k) f.code[k]) := edgK_succ hlt
            have HKL : Hd ((edgK ss f (k + 1)).length ≤ 163840) := by
              have h1 := @edgK_le ss f (k + 1) hlt
              have h2 := HXL.out
              unfold Hd
              omega
            have hk0 : (0 : Int) ≤ k := by omega
            have hk1 : (k : Int) < f.code.length := by omega
            generalize edgI ss f.R f.V (clX f.R f.V f.code k) f.code[k] = Em at *
            go_wp2_with fail
            refine hct.mono ?_
            rintro _ w5 ⟨vm, rfl, hO, hF5⟩
            have HO : Hd (EO w5 wr.heap.size vm Em) := hO
            have HE5 : Hd (EO w5 w3.heap.size u10 (edgK ss f k)) := HE.out.stay hF5
            have HF5 : Hd (Fr (fun _ => False) w3 w5) := HFq.out.trans hF5
            have HAP : Hd (∀ g, u10.ownBlock = some g → vm.ownBlock ≠ some g) := fun g e e2 => by
              have h1 := (World.ownsRow.lt HE.out g e).2
              have h2 := (World.ownsRow.lt hO g e2).1
              omega
            have HLE : Hd ((edgK ss f k).length + Em.length ≤ 163840) := by have h := HKL.out; rw [HKS.out, List.length_append] at h; exact h
            obtain ⟨ma, mc, em⟩ := own_slice hO
            subst em
            have hml : Em.length ≤ 163840 := by have := HLE.out; omega
            clear hct hO hF5 r0 r1 r2 r3 HE HFq
            go_wp2_with fail
            go_loopw [10, 14] (fun v10 v14 wq => ∃ (j : Nat), v14 = .int .i64 j ∧ j ≤ Em.length ∧ Hd (EO wq w3.heap.size v10 (edgK ss f k ++ Em.take j)) ∧ Hd (∃ B, EO wq B (.slice ma Em.length mc) Em) ∧ Hd (∀ g, v10.ownBlock = some g → (Value.slice ma Em.length mc).ownBlock ≠ some g) ∧ Hd (Fr (fun _ => False) w3 wq)) (fun _ v _ => match v with | .int _ q => Em.length - q.toNat | _ => 0)
            case atStart => exact ⟨0, rfl, by omega, by rw [List.take_zero, List.append_nil]; exact HE5, ⟨_, HO.out⟩, HAP, HF5⟩
            case round =>
              obtain ⟨j, rfl, hj, HE, HM, HAP, HFq⟩ := hrel
              by_cases hjl : j < Em.length
              · obtain ⟨B, hM⟩ := HM.out
                obtain ⟨mb, cap', e1, -, hmb, x0, x1, x2⟩ := hM.at hjl
                injection e1 with e1 e2 e3
                subst e1 e3
                have HTK : Hd (edgK ss f k ++ Em.take (j + 1) = (edgK ss f k ++ Em.take j) ++ [(Em[j].1, Em[j].2.1, Em[j].2.2)]) := by
                  unfold Hd
                  rw [List.take_succ_eq_append_getElem hjl, List.append_assoc]
                have HL3 : Hd ((edgK ss f k ++ Em.take j).length ≤ 163840) := by
                  have h := HLE.out
                  unfold Hd
                  rw [List.length_append, List.length_take]
                  omega
                have HMM : Hd (EO wr B (.slice (some ⟨mb, 0, none⟩) Em.length mc) Em ∧ mb < wr.heap.size) := ⟨hM, hmb⟩
                generalize Em[j].1 = d0 at *
                generalize Em[j].2.1 = d1 at *
                generalize Em[j].2.2 = d2 at *
                generalize edgK ss f k ++ Em.take j = E at *
                obtain ⟨ea, ec, ee⟩ := own_slice HE.out
                subst ee
                have HFn : Hd (Fr (fun _ => False) wr (wr.alloc (.cells #[vI d0, vI d1, vI d2] 47))) := Fr.alloc (Fr.refl _ wr) _
                have HRW : Hd ((wr.alloc (.cells #[vI d0, vI d1, vI d2] 47)).ownsRow w3.heap.size 47 3 (.slice ea E.length ec) E.length (E.flatMap edC)) := HE.out.stay HFn.out
                have hnews : ∀ j u, [vI d0, vI d1, vI d2][j]? = some u → (wr.alloc (.cells #[vI d0, vI d1, vI d2] 47)).cell? ((⟨wr.heap.size, 0, none⟩ : Addr).add j) = some u :=
                  World.news_of_block (cs := #[vI d0, vI d1, vI d2]) (heap_new wr _)
                have hbase : w3.heap.size ≤ (wr.alloc (.cells #[vI d0, vI d1, vI d2] 47)).heap.size := (HFq.out.trans HFn.out).size
                have hel := HL3.out
                have hj0 : (0 : Int) ≤ j := by omega
                have hj1 : (j : Int) < Em.length := by omega
                clear hM hmb HM
                go_wp2_with ((at_builtin; refine Hd.out ?_))
                unfold Hd
                refine wpList_append_lies _ rfl (.tmp 87) (.tmp 92) 36 rfl w3.heap.size 47 i7 (.agg #[vI 0, vI 0, vI 0]) 3 24 under36 hi7 hz7 hs7 hb7 rfl (by omega) (.slice ea E.length ec) E.length _ rfl HRW.out ⟨wr.heap.size, 0, none⟩ 1 1 [vI d0, vI d1, vI d2] rfl rfl hnews (by intro u hu; simp at hu; rcases hu with rfl | rfl | rfl <;> rfl) (by omega) (by unfold maxLen; omega) (by omega) hbase (wr.heap.size + 1) (by simp) ?_
                intro g6 cap6 w6 hown6 hgrow6 hat6 hlt6
                obtain ⟨o1, o2⟩ := EO.grow (x := (d0, d1, d2)) HE.out HFn.out hgrow6 hown6 HFq.out (Nat.le_refl _)
                have HQ1 : Hd (EO w6 w3.heap.size (.slice (some ⟨g6, 0, none⟩) (E.length + 1) cap6) (edgK ss f k ++ Em.take (j + 1))) := by unfold Hd; rw [HTK.out]; exact o1
                have HQ2 : Hd (Fr (fun _ => False) w3 w6) := o2
                have HQ3 : Hd (∃ B, EO w6 B (.slice (some ⟨mb, 0, none⟩) Em.length mc) Em) := ⟨B, ownsRow_frL (HMM.out.1.stay HFn.out) (grown_frL hgrow6) (fun g e e2 => HAP.out g e2 e)⟩
                have HQ4 : Hd (∀ g, (Value.slice (some ⟨g6, 0, none⟩) (E.length + 1) cap6).ownBlock = some g → (Value.slice (some ⟨mb, 0, none⟩) Em.length mc).ownBlock ≠ some g) := fun g e e2 => by
                  have e : some g6 = some g := e
                  have e := Option.some.inj e
                  subst e
                  rcases hat6 with h | h
                  · exact HAP.out g6 h e2
                  · have e2 : some mb = some g6 := e2
                    have e2 := Option.some.inj e2
                    have := HMM.out.2
                    omega
                clear hown6 hgrow6 hat6 hlt6 o1 o2 hnews hbase HRW x0 x1 x2
                go_wp2_with fail
                exact ⟨⟨j + 1, castE j, hjl, HQ1, HQ3, HQ4, HQ2⟩, measE hjl⟩
              · have hdj : decide ((j : Int) < Em.length) = false := by simp; omega
                have HQ1 : Hd (EO wr w3.heap.size u10 (edgK ss f (k + 1))) := by
                  have h := HE.out
                  rw [List.take_of_length_le (by omega), ← HKS.out] at h
                  exact h
                go_wp2_with fail
                exact ⟨⟨k + 1, castE k, hlt, HQ1, HFq⟩, measE hlt⟩
          · have hdk : decide ((k : Int) < f.code.length) = false := by simp; omega
            have hke : k = f.code.length := by omega
            have HQ1 : Hd (EO wr w.heap.size u10 (edgX ss f)) := by
              have h : EO wr w.heap.size u10 (edgK ss f k) := World.ownsRow.mono HE.out HFz.out.size
              rw [hke] at h
              exact h
            clear hke
            go_wp2_with fail
            refine bodyPost_ret (results_tmp2 Tryd.results27 _ _ _) rfl ?_
            exact HEND.out _ _ HTD.out HQ1.out (HFz.out.trans HFq.out)
  · have hd1 : ((ss.length : Int) != (fs.length : Int)) = true := by simp; omega
    have HN : Hd (¬ EdgOk G fs i ss) := fun ⟨_, _, _, h, _⟩ => hls h
    go_wp2_with fail
    refine bodyPost_ret (results_tmp2 Tryd.results27 _ _ _) rfl ?_
    exact ede_bad HN.out HFw.out
end Go.Proofs.YtlmlmhinbkcpoaaDoor

namespace Go.Proofs.YtlmlmhinbkcpoaaDoor
open Go.RowKit Go.Shelf
set_option linter.unusedVariables false
set_option linter.unusedSimpArgs false

/-! ### what another function is makes no difference -/
/-- Alike, as far as a function of this code can see. -/
structure Alike (cs : List PI) (fs fs' : List PF) (ss ss' : List PS) : Prop where
  len : fs'.length = fs.length
  slen : ss'.length = ss.length
  head : ∀ c ∈ cs, c.op = 11 → 0 ≤ c.n → (fs'.getD c.n.toNat ⟨0, 0, 0, []⟩).P = (fs.getD c.n.toNat ⟨0, 0, 0, []⟩).P ∧ (fs'.getD c.n.toNat ⟨0, 0, 0, []⟩).R = (fs.getD c.n.toNat ⟨0, 0, 0, []⟩).R ∧ (fs'.getD c.n.toNat ⟨0, 0, 0, []⟩).V = (fs.getD c.n.toNat ⟨0, 0, 0, []⟩).V
  sum : ∀ c ∈ cs, c.op = 11 → 0 ≤ c.n → ss'.getD c.n.toNat ⟨[], []⟩ = ss.getD c.n.toNat ⟨[], []⟩
section
variable {fs fs' : List PF} {ss ss' : List PS} {f : PF}
theorem Alike.heads (h : Alike f.code fs fs' ss ss') : headsF fs' f.code = headsF fs f.code := by
  unfold headsF
  rw [h.len]
  apply List.map_congr_left
  intro c hc
  obtain ⟨h1, h2⟩ := List.mem_filter.1 hc
  unfold isH at h2
  obtain ⟨e1, e2, e3⟩ := h.head c h1 (of_decide_eq_true h2).1 (of_decide_eq_true h2).2.1
  unfold headF
  generalize fs'.getD c.n.toNat ⟨0, 0, 0, []⟩ = a at *
  generalize fs.getD c.n.toNat ⟨0, 0, 0, []⟩ = b at *
  cases a
  cases b
  simp only at e1 e2 e3
  subst e1 e2 e3
  rfl
theorem Alike.alone (h : Alike f.code fs fs' ss ss') : aloneP fs' f = aloneP fs f := by
  unfold aloneP
  rw [h.heads, h.len]
theorem Alike.told (h : Alike f.code fs fs' ss ss') (hn : ∀ c ∈ f.code, c.op = 11 → 0 ≤ c.n) : toldX fs' ss' f.code = toldX fs ss f.code := by
  unfold toldX
  have key : ∀ c ∈ f.code, fitI fs' ss' c = fitI fs ss c := fun c hc => by
    unfold fitI
    by_cases e : c.op = 11
    · rw [if_pos e, if_pos e]
      obtain ⟨e1, e2, -⟩ := h.head c hc e (hn c hc e)
      rw [h.sum c hc e (hn c hc e), e1, e2]
    · rw [if_neg e, if_neg e]
  generalize f.code = cs at key
  clear hn h
  induction cs with
  | nil => rfl
  | cons c r ih => rw [List.all_cons, List.all_cons, key c List.mem_cons_self, ih (fun d hd => key d (List.mem_cons_of_mem _ hd))]
/-- Whether there are edges, and which. -/
theorem Alike.ok {G : Int} {i : Nat} (hi : i < fs.length) (hi' : i < fs'.length) (he : fs'[i] = fs[i]) (h : Alike fs[i].code fs fs' ss ss') : EdgOk G fs' i ss' ↔ EdgOk G fs i ss := by
  have key : checkP G (aloneP fs fs[i]) = 0 → toldX fs' ss' fs[i].code = toldX fs ss fs[i].code := fun hc => h.told (fun c hcc e => by
    obtain ⟨q, hq, -⟩ := (right_ok hc).call c hcc e
    omega)
  constructor
  · rintro ⟨j, hj, hjl, h1, h2, h3⟩
    obtain rfl : i = j := by omega
    rw [he, h.alone] at h2
    rw [he, key h2] at h3
    exact ⟨i, rfl, hi, by rw [← h.slen, h1, h.len], h2, h3⟩
  · rintro ⟨j, hj, hjl, h1, h2, h3⟩
    obtain rfl : i = j := by omega
    rw [← key h2] at h3
    exact ⟨i, rfl, hi', by rw [h.slen, h1, h.len], by rw [he, h.alone]; exact h2, by rw [he]; exact h3⟩
end
end Go.Proofs.YtlmlmhinbkcpoaaDoor

namespace Go.Proofs.YtlmlmhinbkcpoaaDoor
open Go.RowKit (wrap32 wrap64)
set_option linter.unusedVariables false
set_option linter.unusedSimpArgs false

set_option maxRecDepth 100000 in
set_option maxHeartbeats 2000000 in
theorem eqEdges_same (v1 v2 : Value) (E : List Ed) (w : World) (h1 : w.ownsRow 0 47 3 v1 E.length (E.flatMap edC)) (h2 : w.ownsRow 0 47 3 v2 E.length (E.flatMap edC)) (hn : E.length ≤ 1000000) :
    Calls Tryd.prog 13 #[v1, v2] w fun e w' => e = .returned (.bool true) ∧ Fr (fun _ => False) w w' := by
  have H1 : Hd _ := h1
  have H2 : Hd _ := h2
  obtain ⟨a1, c1, e1⟩ := own_slice h1
  obtain ⟨a2, c2, e2⟩ := own_slice h2
  subst e1 e2
  clear h1 h2
  go_enter Tryd.func13, Tryd.ntmps13
  go_wp2_with fail
  go_loopw [5] (fun v wr => ∃ (k : Nat), v = .int .i64 k ∧ k ≤ E.length ∧ Hd (Fr (fun _ => False) w wr)) (fun v _ => match v with | .int _ q => E.length - q.toNat | _ => 0)
  case atStart => exact ⟨0, rfl, by omega, Fr.refl _ _⟩
  case round =>
    obtain ⟨k, rfl, hk, HF⟩ := hrel
    by_cases hlt : k < E.length
    · have pc : ∀ {v : Value} (hv : w.ownsRow 0 47 3 v E.length (E.flatMap edC)) o u, o < 3 → (edC E[k])[o]? = some u → ∃ g cap, v = .slice (some ⟨g, 0, none⟩) E.length cap ∧ wr.cell? ⟨g, k * 3 + o, none⟩ = some u := fun hv o u ho hu => by
        obtain ⟨g, cap, e, -, hc⟩ := own_cell (ownsRow_frL hv HF.out (fun _ _ e => e)) (j := k * 3 + o) (u := u) (by rw [flat_get edC 3 (fun _ => rfl) E k o hlt ho]; exact hu)
        exact ⟨g, cap, e, hc⟩
      obtain ⟨g, cap, eg, x0⟩ := pc H1.out 0 _ (by omega) rfl
      obtain ⟨g1, cap1, eg1, x1⟩ := pc H1.out 1 _ (by omega) rfl
      obtain ⟨g2, cap2, eg2, x2⟩ := pc H1.out 2 _ (by omega) rfl
      cases eg
      cases eg1
      cases eg2
      obtain ⟨l, lap, el, y0⟩ := pc H2.out 0 _ (by omega) rfl
      obtain ⟨l1, lap1, el1, y1⟩ := pc H2.out 1 _ (by omega) rfl
      obtain ⟨l2, lap2, el2, y2⟩ := pc H2.out 2 _ (by omega) rfl
      cases el
      cases el1
      cases el2
      rw [Nat.add_zero] at x0 y0
      have hk0 : (0 : Int) ≤ k := by omega
      have hk1 : (k : Int) < E.length := by omega
      clear pc
      generalize E[k].1 = d at *
      generalize E[k].2.1 = s at *
      generalize E[k].2.2 = q at *
      go_wp2_with fail
      go_quiet (fail)
      go_wp2_with fail
      exact ⟨⟨k + 1, by simp, by omega, ⟨HF.out.os, HF.out.tape, HF.out.output, HF.out.size, HF.out.block⟩⟩, by simp; omega⟩
    · have hdk : decide ((k : Int) < E.length) = false := by simp; omega
      go_wp2_with fail
      go_ret
      exact ⟨rfl, HF.out⟩
end Go.Proofs.YtlmlmhinbkcpoaaDoor

namespace Go.Proofs.YtlmlmhinbkcpoaaDoor
open Go.RowKit (wrap32 wrap64)
set_option linter.unusedVariables false
set_option linter.unusedSimpArgs false

end Go.Proofs.YtlmlmhinbkcpoaaDoor

namespace Go.Proofs.YtlmlmhinbkcpoaaDoor
open Go.RowKit (wrap32 wrap64)
set_option linter.unusedVariables false
set_option linter.unusedSimpArgs false

end Go.Proofs.YtlmlmhinbkcpoaaDoor

namespace Go.Proofs.YtlmlmhinbkcpoaaDoor
open Go.RowKit (wrap32 wrap64)
set_option linter.unusedVariables false
set_option linter.unusedSimpArgs false

end Go.Proofs.YtlmlmhinbkcpoaaDoor

namespace Go.Proofs.YtlmlmhinbkcpoaaDoor
open Go.RowKit (wrap32 wrap64)
set_option linter.unusedVariables false
set_option linter.unusedSimpArgs false

/-- append to a row of one's own; what else lies in its block ahead of its end stays. -/
theorem run_append_keeps {P : Program} (w : World) (t ty : TypeId) (base : Nat) (e : TypeId) (i : TypeInfo) (z : Value) (size bytes : Nat) (ht : P.underlying t = some (.slice e)) (hi : P.info? e = some i) (hz : i.zero = some z)
    (hsize : i.size = size) (hby : i.bytes = bytes) (hzs : z.cells.size = size) (hsz : 0 < size)
    (v : Value) (n : Nat) (xs : List Value) (hown : w.ownsRow base e size v n xs)
    (ad : Addr) (m c : Nat) (news : List Value) (hl : news.length = m * size) (hnews : ∀ j u, news[j]? = some u → w.cell? (ad.add j) = some u) (h1 : ∀ u ∈ news, u.oneCell' = true)
    (hm : 0 < m) (h63 : n + m ≤ maxLen) (hbytes : (n + m) * bytes ≤ 140737488355328) (hbase : base ≤ w.heap.size) (H : Nat) (hH : w.heap.size = H) :
    ∃ g cap w', (Builtin.append_ #[t, t] ty #[v, .slice (some ad) m c]).run P w = .ok (.slice (some ⟨g, 0, none⟩) (n + m) cap) w' ∧
      w'.ownsRow base e size (.slice (some ⟨g, 0, none⟩) (n + m) cap) (n + m) (xs ++ news) ∧ w.grownBy w' v.ownBlock ∧ (v.ownBlock = some g ∨ g = H) ∧ g < w'.heap.size ∧
      ∀ (B k cap0 g0 : Nat) (ys : List Value), w.ownsRow B e size (.slice (some ⟨g0, 0, none⟩) k cap0) k ys → (v.ownBlock = some g0 → k ≤ n) → w'.ownsRow B e size (.slice (some ⟨g0, 0, none⟩) k cap0) k ys := by
  obtain ⟨g, cap, w', hr, h2, h3, h4, h5⟩ := run_append_lies (P := P) w t ty base e i z size bytes ht hi hz hsize hby hzs hsz v n xs hown ad m c news hl hnews h1 hm h63 hbytes hbase H hH
  refine ⟨g, cap, w', hr, h2, h3, h4, h5, fun B k cap0 g0 ys hrow hk => ?_⟩
  by_cases hv : v.ownBlock = some g0
  · have hkn := hk hv
    rcases hown.2 with ⟨rfl, rfl⟩ | ⟨g1, cap1, cur, rfl, hbg, hg, hnc, hcm, hcs, htake⟩
    · cases hv
    · cases hv
      subst hsize
      rcases hrow.2 with ⟨e1, -⟩ | ⟨g2, cap2, cur2, e1, k1, k2, k3, k4, k5, k6⟩
      · cases e1
      · cases e1
        rw [hg] at k2
        cases k2
        by_cases hroom : n + m ≤ cap1
        · have hfit : n * i.size + news.length ≤ cur.size := by rw [hl, hcs, ← Nat.add_mul]; exact Nat.mul_le_mul_right _ hroom
          have hr2 := run_append_room (P := P) w t ty e i ht hi g1 n cap1 cur hg ad m c news hl hnews h1 hroom hfit
          have hw := hr.symm.trans hr2
          injection hw with hw1 hw2
          subst hw2
          refine ⟨hrow.1, Or.inr ⟨g1, cap0, _, rfl, k1, setRow_heap w g1 cur _ e _ hg, k3, k4, ?_, ?_⟩⟩
          · simp only [List.size_toArray, List.length_append, List.length_take, List.length_drop, Array.length_toList]
            omega
          · rw [← k6, List.append_assoc]
            have hle : k * i.size ≤ n * i.size := Nat.mul_le_mul_right _ hkn
            rw [List.take_append_of_le_length (by rw [List.length_take, Array.length_toList]; omega), List.take_take]
            congr 1
            omega
        · have holds : ∀ j u, xs[j]? = some u → w.cell? ((⟨g1, 0, none⟩ : Addr).add j) = some u := hown.cells (g := g1) rfl
          have hr2 := run_append_grow (P := P) w t ty e i z ht hi hz ⟨g1, 0, none⟩ n cap1 xs hown.1 holds ad m c news hl hnews (by omega) (by simp only [maxLen] at h63; omega) (growslice_fits (by omega) (by rw [hby]; exact hbytes))
          have hw := hr.symm.trans hr2
          injection hw with hw1 hw2
          subst hw2
          refine ⟨hrow.1, Or.inr ⟨g1, cap0, cur, rfl, k1, ?_, k3, k4, k5, k6⟩⟩
          exact (Go.RowKit.Below.heap_alloc w.drew _ g1 (heap_lt hg)).trans hg
  · exact ownsRow_frL hrow (grown_frL h3) (fun j ej e => by cases ej; exact hv e)

theorem wpList_append_keeps {P : Program} {w : World} {ops : Array Oper} {rest : List Oper} {o : Oper} {a : Act} {Q : Exit → Act → World → Prop} (hgd : o.guard = none) (s x : Operand) (t : TypeId)
    (ho : o.op = .call { callee := .builtin .append, args := #[s, x], argTypes := #[t, t] })
    (base : Nat) (e : TypeId) (i : TypeInfo) (z : Value) (size bytes : Nat) (ht : P.underlying t = some (.slice e)) (hi : P.info? e = some i) (hz : i.zero = some z)
    (hsize : i.size = size) (hby : i.bytes = bytes) (hzs : z.cells.size = size) (hsz : 0 < size)
    (v : Value) (n : Nat) (xs : List Value) (hs : a.eval s = v) (hown : w.ownsRow base e size v n xs)
    (ad : Addr) (m c : Nat) (news : List Value) (hx : a.eval x = .slice (some ad) m c) (hl : news.length = m * size) (hnews : ∀ j u, news[j]? = some u → w.cell? (ad.add j) = some u) (h1 : ∀ u ∈ news, u.oneCell' = true)
    (hm : 0 < m) (h63 : n + m ≤ maxLen) (hbytes : (n + m) * bytes ≤ 140737488355328) (hbase : base ≤ w.heap.size) (H : Nat) (hH : w.heap.size = H)
    (h : ∀ g cap w', w'.ownsRow base e size (.slice (some ⟨g, 0, none⟩) (n + m) cap) (n + m) (xs ++ news) → w.grownBy w' v.ownBlock → (v.ownBlock = some g ∨ g = H) → g < w'.heap.size →
      (∀ (B k cap0 g0 : Nat) (ys : List Value), w.ownsRow B e size (.slice (some ⟨g0, 0, none⟩) k cap0) k ys → (v.ownBlock = some g0 → k ≤ n) → w'.ownsRow B e size (.slice (some ⟨g0, 0, none⟩) k cap0) k ys) →
      wpList P ops Q rest (a.put o.dst (.slice (some ⟨g, 0, none⟩) (n + m) cap)) w') : wpList P ops Q (o :: rest) a w :=
  wpList_plain hgd fun _ hK => by
    obtain ⟨g, cap, w', hr, h2, h3, h4, h5, h6⟩ := run_append_keeps (P := P) w t o.type base e i z size bytes ht hi hz hsize hby hzs hsz v n xs hown ad m c news hl hnews h1 hm h63 hbytes hbase H hH
    unfold Oper.wp execOp
    simp only [ho, resolve, invoke, builtin, Sem.run_bind, Sem.run_pure, Result.andThen_ok, List.map_toArray, List.map_cons, List.map_nil, hs, hx, hr]
    exact hK _ _ (h g cap w' h2 h3 h4 h5 h6)

/-! ### four lists of edges -/
theorem ede_one (G : Int) (fs : List PF) (F : Int) (ss : List PS) : ∃ (E : List Ed) (z : Int), E.length ≤ 163840 ∧ ∀ w e w', EdgE G fs F ss w e w' → ∃ v, e = .returned (.tuple #[v, vI z]) ∧ EO w' w.heap.size v E ∧ Fr (fun _ => False) w w' := by
  by_cases hok : EdgOk G fs F ss
  · obtain ⟨i, rfl, hi, hls, hck, htl⟩ := id hok
    refine ⟨edgX ss fs[i], 0, edgX_len (right_ok hck) htl hls, fun w e w' h => ?_⟩
    rcases h.2 with ⟨hn, -⟩ | ⟨q, hq, e1, -, -, -, v, he, ho⟩
    · exact absurd hok hn
    · obtain rfl : i = q := by omega
      exact ⟨v, he, ho, h.1⟩
  · refine ⟨[], 1, by simp, fun w e w' h => ?_⟩
    rcases h.2 with ⟨-, he⟩ | ⟨q, hq, e1, h1, h2, h3, -⟩
    · exact ⟨_, he, EO.nil _ _, h.1⟩
    · exact absurd ⟨q, e1, hq, h1, h2, h3⟩ hok
/-- An edge is written over. -/
def set3 (w : World) (g o : Nat) (x : Ed) : World := ((w.setCell ⟨g, o, none⟩ (vI x.1)).setCell ⟨g, o + 1, none⟩ (vI x.2.1)).setCell ⟨g, o + 2, none⟩ (vI x.2.2)
theorem set3_fr (w : World) (g o : Nat) (x : Ed) : Fr (fun j => j = g) w (set3 w g o x) := ((setCell_fr w g o _).trans (setCell_fr _ g _ _)).trans (setCell_fr _ g _ _)
theorem EO.set {w : World} {B g cap i : Nat} {E : List Ed} (h : EO w B (.slice (some ⟨g, 0, none⟩) E.length cap) E) (hi : i < E.length) (x : Ed) : EO (set3 w g (i * 3) x) B (.slice (some ⟨g, 0, none⟩) E.length cap) (E.set i x) := by
  have h1 := (row_set (j := i * 3) h (vI x.1)).1
  have h2 := (row_set (j := i * 3 + 1) h1 (vI x.2.1)).1
  have h3 := (row_set (j := i * 3 + 2) h2 (vI x.2.2)).1
  have e1 := flat_set edC 3 (fun _ => rfl) 0 (by omega) (vI x.1) E i hi (x.1, E[i].2.1, E[i].2.2) rfl
  have e2 := flat_set edC 3 (fun _ => rfl) 1 (by omega) (vI x.2.1) (E.set i (x.1, E[i].2.1, E[i].2.2)) i (by simpa using hi) (x.1, x.2.1, E[i].2.2) (by simp [edC])
  have e3 := flat_set edC 3 (fun _ => rfl) 2 (by omega) (vI x.2.2) ((E.set i (x.1, E[i].2.1, E[i].2.2)).set i (x.1, x.2.1, E[i].2.2)) i (by simpa using hi) (x.1, x.2.1, x.2.2) (by simp [edC])
  rw [List.set_set, List.set_set] at e3
  rw [List.set_set] at e2
  rw [List.set_set] at e3
  unfold EO
  rw [List.length_set]
  have e : (E.set i x).flatMap edC = ((((E.flatMap edC).set (i * 3) (vI x.1)).set (i * 3 + 1) (vI x.2.1)).set (i * 3 + 2) (vI x.2.2)) := by
    have ex : E.set i x = E.set i (x.1, x.2.1, x.2.2) := rfl
    rw [ex, e3, e2, e1]
    rfl
  rw [e]
  exact h3
theorem EO.frz {w : World} {B g cap : Nat} {E : List Ed} (h : EO w B (.slice (some ⟨g, 0, none⟩) E.length cap) E) (o : Nat) : w.frozen? ⟨g, o, none⟩ = false := (row_set (j := o) h (vI 0)).2
structure F4 (w : World) (K n : Nat) (v4 v6 v9 v11 : Value) (E A B : List Ed) : Prop where
  e4 : EO w K v4 E
  e6 : EO w K v6 A
  e9 : EO w K v9 B
  e11 : EO w K v11 E
  l4 : E.length = n
  l6 : A.length = n
  l9 : B.length = n
  a6 : ∀ g, v6.ownBlock = some g → v4.ownBlock ≠ some g ∧ v9.ownBlock ≠ some g ∧ v11.ownBlock ≠ some g
  a9 : ∀ g, v9.ownBlock = some g → v4.ownBlock ≠ some g ∧ v6.ownBlock ≠ some g ∧ v11.ownBlock ≠ some g
theorem F4.stay {w w' : World} {K n : Nat} {v4 v6 v9 v11 : Value} {E A B : List Ed} (h : F4 w K n v4 v6 v9 v11 E A B) (f : Fr (fun _ => False) w w') : F4 w' K n v4 v6 v9 v11 E A B :=
  ⟨h.e4.stay f, h.e6.stay f, h.e9.stay f, h.e11.stay f, h.l4, h.l6, h.l9, h.a6, h.a9⟩
theorem F4.set6 {w : World} {K n g cap i : Nat} {v4 v9 v11 : Value} {E A B : List Ed} (h : F4 w K n v4 (.slice (some ⟨g, 0, none⟩) n cap) v9 v11 E A B) (hi : i < n) (x : Ed) : F4 (set3 w g (i * 3) x) K n v4 (.slice (some ⟨g, 0, none⟩) n cap) v9 v11 E (A.set i x) B := by
  have f := set3_fr w g (i * 3) x
  have hl := h.l6
  have ha := h.a6 g rfl
  refine ⟨ownsRow_frL h.e4 f (fun k e e2 => ?_), ?_, ownsRow_frL h.e9 f (fun k e e2 => ?_), ownsRow_frL h.e11 f (fun k e e2 => ?_), h.l4, by rw [List.length_set]; exact hl, h.l9, h.a6, h.a9⟩
  · subst e2; exact ha.1 e
  · subst hl; exact h.e6.set hi x
  · subst e2; exact ha.2.1 e
  · subst e2; exact ha.2.2 e
theorem F4.set9 {w : World} {K n g cap i : Nat} {v4 v6 v11 : Value} {E A B : List Ed} (h : F4 w K n v4 v6 (.slice (some ⟨g, 0, none⟩) n cap) v11 E A B) (hi : i < n) (x : Ed) : F4 (set3 w g (i * 3) x) K n v4 v6 (.slice (some ⟨g, 0, none⟩) n cap) v11 E A (B.set i x) := by
  have f := set3_fr w g (i * 3) x
  have hl := h.l9
  have ha := h.a9 g rfl
  refine ⟨ownsRow_frL h.e4 f (fun k e e2 => ?_), ownsRow_frL h.e6 f (fun k e e2 => ?_), ?_, ownsRow_frL h.e11 f (fun k e e2 => ?_), h.l4, h.l6, by rw [List.length_set]; exact hl, h.a6, h.a9⟩
  · subst e2; exact ha.1 e
  · subst e2; exact ha.2.1 e
  · subst hl; exact h.e9.set hi x
  · subst e2; exact ha.2.2 e
/-- Rows that are no longer than the one that is gone on with stay. -/
def Keeps (w w' : World) (N : Nat) : Prop := ∀ (B k cap0 g0 : Nat) (ys : List Value), w.ownsRow B 47 3 (.slice (some ⟨g0, 0, none⟩) k cap0) k ys → k ≤ N → w'.ownsRow B 47 3 (.slice (some ⟨g0, 0, none⟩) k cap0) k ys
theorem EO.keeps {w w' : World} {B N : Nat} {v : Value} {E : List Ed} (h : EO w B v E) (k : Keeps w w' N) (hn : E.length ≤ N) : EO w' B v E := by
  rcases h.2 with ⟨e1, e2⟩ | ⟨g, cap, cur, e, -⟩
  · exact ⟨h.1, Or.inl ⟨e1, e2⟩⟩
  · subst e
    exact k _ _ _ _ _ h hn
theorem F4.keeps {w w' : World} {K n N : Nat} {v4 v6 v9 v11 : Value} {E A B : List Ed} (h : F4 w K n v4 v6 v9 v11 E A B) (k : Keeps w w' N) (hn : n ≤ N) : F4 w' K n v4 v6 v9 v11 E A B :=
  ⟨h.e4.keeps k (by rw [h.l4]; exact hn), h.e6.keeps k (by rw [h.l6]; exact hn), h.e9.keeps k (by rw [h.l9]; exact hn), h.e11.keeps k (by rw [h.l4]; exact hn), h.l4, h.l6, h.l9, h.a6, h.a9⟩
theorem rep_set {α : Type} (x : α) (l : List α) (i : Nat) (hi : i < l.length) : (List.replicate i x ++ l.drop i).set i x = List.replicate (i + 1) x ++ l.drop (i + 1) := by
  rw [List.set_append_right _ _ (by simp), List.length_replicate, Nat.sub_self, List.drop_eq_getElem_cons hi, List.set_cons_zero, List.replicate_succ', List.append_assoc]
  rfl
theorem rep_get {α : Type} (x : α) (l : List α) {n i : Nat} (hl : l.length = n) (hi : i < n) (h : i < (List.replicate n x ++ l.drop n).length) : (List.replicate n x ++ l.drop n)[i] = x := by
  rw [List.getElem_append_left (by simpa using hi)]
  simp

end Go.Proofs.YtlmlmhinbkcpoaaDoor
