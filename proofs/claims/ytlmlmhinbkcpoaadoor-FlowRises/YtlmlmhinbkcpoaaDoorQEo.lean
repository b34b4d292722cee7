import Derived.Test.YtlmlmhinbkcpoaaDoorQEjJ
import Derived.Test.YtlmlmhinbkcpoaaDoorQLhJ
import Derived.Test.YtlmlmhinbkcpoaaDoorQQ9J
namespace Go.Proofs.YtlmlmhinbkcpoaaDoor
open Go.RowKit (wrap32 wrap64)
set_option linter.unusedVariables false
set_option linter.unusedSimpArgs false

abbrev caseO (G : Int) (fv : Value) (F : Int) (sv : Value) : Obj := .cells #[vI G, fv, vI F, sv] 27

/-- How often each location has been a source. -/
def ctl (E : List Ed) (k n : Nat) : List Value := (List.range n).map fun c : Nat => vI ((cnt (E.take k) (c : Int) : Nat) : Int)
theorem ctl_len (E : List Ed) (k n : Nat) : (ctl E k n).length = n := by unfold ctl; simp
theorem ctl_get (E : List Ed) (k n c : Nat) (h : c < n) : (ctl E k n)[c]? = some (vI ((cnt (E.take k) c : Nat) : Int)) := by unfold ctl; simp [h]
theorem ctl_zero (E : List Ed) (n : Nat) : ctl E 0 n = List.replicate n (vI 0) := by
  apply List.ext_getElem?
  intro c
  by_cases h : c < n
  · rw [ctl_get E 0 n c h]; simp [h, cnt]
  · rw [List.getElem?_eq_none (by rw [ctl_len]; omega), List.getElem?_eq_none (by simp; omega)]
theorem ctl_succ {E : List Ed} {k n s : Nat} (hk : k < E.length) (hs : E[k].2.1 = s) (hn : s < n) : (ctl E k n).set s (vI (((cnt (E.take k) s : Nat) : Int) + 1)) = ctl E (k + 1) n := by
  apply List.ext_getElem?
  intro c
  rw [List.getElem?_set]
  by_cases h : c < n
  · rw [ctl_get E (k + 1) n c h, List.take_succ_eq_append_getElem hk, cnt_snoc, hs]
    by_cases e : s = c
    · subst e
      rw [if_pos rfl, if_pos (by rw [ctl_len]; exact h), if_pos rfl]
      simp
    · rw [if_neg e, if_neg (by omega), ctl_get E k n c h]
      simp
  · rw [if_neg (by omega), List.getElem?_eq_none (by rw [ctl_len]; omega), List.getElem?_eq_none (by rw [ctl_len]; omega)]
theorem cnt_le (l : List Ed) (c : Int) : cnt l c ≤ l.length := List.length_filter_le _ _

theorem measN {i n : Nat} (h : i < n) : n - ((i : Int) + 1).toNat < n - (i : Int).toNat := by omega
theorem castN (i : Nat) : Value.int .i64 ((i : Int) + 1) = Value.int .i64 ((i + 1 : Nat) : Int) := by simp

set_option maxRecDepth 100000 in
set_option maxHeartbeats 8000000 in
theorem shape_any (G : Int) (fv : Value) (fs : List PF) (F : Int) (sv : Value) (ss : List PS) (w : World) (h1 : FA w fv fs) (h2 : SsA w sv ss) (b1 : FineP fs) (b2 : FineS ss) (hT : Tab w) (hR : RowsA w) :
    Calls Tryd.prog 4 #[.agg #[vI G, fv, vI F, sv]] w fun e w' => e = .returned (.bool true) ∧ Fr (fun _ => False) w w' := by
  have hFa : Fr (fun _ => False) w (w.alloc (caseO G fv F sv)) := Fr.alloc (Fr.refl _ w) _
  have h0 : 0 < w.heap.size := by have := hT.lt; omega
  have hwk := works_any (w.alloc (caseO G fv F sv)) (hT.stay hFa) (hR.stay hFa h0).t
  have HB : Hd ((w.alloc (caseO G fv F sv)).heap[w.heap.size]? = some (caseO G fv F sv)) := heap_new w _
  have HFa : Hd (Fr (fun _ => False) w (w.alloc (caseO G fv F sv))) := hFa
  have H1 : Hd (FA w fv fs) := h1
  have H2 : Hd (SsA w sv ss) := h2
  have HP : Hd (FineP fs) := b1
  have HS : Hd (FineS ss) := b2
  have HT : Hd (Tab w) := hT
  have HR : Hd (RowsA w ∧ 0 < w.heap.size) := ⟨hR, h0⟩
  obtain ⟨fa, fc, efv, -⟩ := h1
  obtain ⟨sa, sc, esv, -⟩ := h2
  subst efv esv
  clear hFa hT hR b1 b2
  go_enter Tryd.func4, Tryd.ntmps4
  go_wp2_with fail
  refine hwk.mono ?_
  rintro _ w1 ⟨rfl, hF1⟩
  have HF1 : Hd (Fr (fun _ => False) w w1) := HFa.out.trans hF1
  obtain ⟨X, hX⟩ : ∃ X, X = w.heap.size := ⟨_, rfl⟩
  have HX : Hd (X = w.heap.size) := hX
  have HB1 : Hd (w1.heap[X]? = some (caseO G (.slice fa fs.length fc) F (.slice sa ss.length sc))) := by unfold Hd; rw [hX]; exact (hF1.block _ (heap_lt HB.out) (fun h => h)).trans HB.out
  have HC : Hd (∀ W, Fr (fun _ => False) w1 W → W.cell? ⟨X, 0, none⟩ = some (vI G) ∧ W.cell? ⟨X, 1, none⟩ = some (.slice fa fs.length fc) ∧ W.cell? ⟨X, 2, none⟩ = some (vI F) ∧ W.cell? ⟨X, 3, none⟩ = some (.slice sa ss.length sc)) := fun W f => by
    have hb := (f.block _ (heap_lt HB1.out) (fun h => h)).trans HB1.out
    exact ⟨by rw [cell_of hb]; rfl, by rw [cell_of hb]; rfl, by rw [cell_of hb]; rfl, by rw [cell_of hb]; rfl⟩
  obtain ⟨p0, p1, p2, p3⟩ := HC.out w1 (Fr.refl _ _)
  clear hF1 HFa HB hwk
  go_upto_region 2 with fail
  rw [← hX]
  clear hX
  go_cut [4, 5] (fun x4 x5 wx => Hd (Fr (fun _ => False) w1 wx) ∧ ((x4 = .slice none 0 0 ∧ x5 = vI 1) ∨ ∃ (i : Nat) (h : i < fs.length), F = i ∧ ss.length = fs.length ∧ Hd (checkP G (aloneP fs fs[i]) = 0) ∧ Hd (toldX fs ss fs[i].code = true) ∧ x5 = vI 0 ∧ Hd (wx.ownsRow 0 47 3 x4 (edgX ss fs[i]).length ((edgX ss fs[i]).flatMap edC))))
  case first =>
    go_region_held3 (fun w' => w'.cell? ⟨X, 0, none⟩ = some (vI G) ∧ w'.cell? ⟨X, 1, none⟩ = some (.slice fa fs.length fc) ∧ w'.cell? ⟨X, 2, none⟩ = some (vI F) ∧ w'.cell? ⟨X, 3, none⟩ = some (.slice sa ss.length sc)) (go_keep) ((
      first
        | (go_at_call 10
           refine (show Calls Tryd.prog 10 #[.agg #[vI G, .slice fa fs.length fc]] _ _ from copyProgram_any G _ fs _ (by first | exact H1.out.stay (HF1.out.trans ((Fr.refl (fun _ => False) w1).drew)) | exact H1.out.stay (HF1.out.trans HGb.out)) HP.out).mono ?_
           rintro e wx ⟨pv, rfl, hpo, hfx⟩
           have HPO : Hd (FA wx pv fs) := hpo
           obtain ⟨pa, pc, epv, -⟩ := hpo
           subst epv
           have HGa : Hd (Fr (fun _ => False) w1 wx) := by first | exact (Fr.drew (Fr.refl _ _)).trans hfx | exact HGb.out.trans hfx
           obtain ⟨s0, s1, s2, s3⟩ := HC.out wx HGa.out
           have HFXa : Hd _ := hfx
           clear hfx)
        | (go_at_call 11
           refine (show Calls Tryd.prog 11 #[.slice sa ss.length sc] _ _ from copySums_any _ ss _ (by first | exact H2.out.stay (HF1.out.trans ((Fr.refl (fun _ => False) w1).drew)) | exact H2.out.stay (HF1.out.trans HGa.out)) HS.out).mono ?_
           rintro e wy ⟨qv, Lq, rfl, hqo, hLq, hfy⟩
           have HQO : Hd (SsA wy qv ss) := by have := hqo.sa; rw [hLq] at this; exact this
           obtain ⟨qa, qc, eqv⟩ := own_slice hqo.row
           subst eqv
           have HGb : Hd (Fr (fun _ => False) w1 wy) := by first | exact (Fr.drew (Fr.refl _ _)).trans hfy | exact HGa.out.trans hfy
           obtain ⟨t0, t1, t2, t3⟩ := HC.out wy HGb.out
           have HFXb : Hd _ := hfy
           clear hqo hLq hfy)
        | (go_at_call 9
           refine (show Calls Tryd.prog 9 #[.agg #[vI G, .slice pa fs.length pc], vI F, .slice qa Lq.length qc] _ _ from edges_any G _ _ fs ss F _ (by first | exact HPO.out | exact HPO.out.stay HFXb.out) (by first | exact HQO.out | exact HQO.out.stay HFXa.out) HP.out HS.out (HT.out.stay (HF1.out.trans (by first | exact HGa.out | exact HGb.out))) (HR.out.1.stay (HF1.out.trans (by first | exact HGa.out | exact HGb.out)) HR.out.2)).mono ?_
           rintro e wz hE
           obtain ⟨xv, xe, ee, hrel⟩ : ∃ xv xe, e = .returned (.tuple #[xv, xe]) ∧ ((xv = .slice none 0 0 ∧ xe = vI 1) ∨ ∃ (i : Nat) (h : i < fs.length), F = i ∧ ss.length = fs.length ∧ Hd (checkP G (aloneP fs fs[i]) = 0) ∧ Hd (toldX fs ss fs[i].code = true) ∧ xe = vI 0 ∧ Hd (wz.ownsRow 0 47 3 xv (edgX ss fs[i]).length ((edgX ss fs[i]).flatMap edC))) := by
             rcases hE.2 with ⟨-, he⟩ | ⟨i, h, k1, k2, k3, k4, v, he, ho⟩
             · exact ⟨_, _, he, Or.inl ⟨rfl, rfl⟩⟩
             · exact ⟨_, _, he, Or.inr ⟨i, h, k1, k2, k3, k4, rfl, World.ownsRow.mono ho (Nat.zero_le _)⟩⟩
           subst ee
           have HREL : Hd ((xv = .slice none 0 0 ∧ xe = vI 1) ∨ ∃ (i : Nat) (h : i < fs.length), F = i ∧ ss.length = fs.length ∧ Hd (checkP G (aloneP fs fs[i]) = 0) ∧ Hd (toldX fs ss fs[i].code = true) ∧ xe = vI 0 ∧ Hd (wz.ownsRow 0 47 3 xv (edgX ss fs[i]).length ((edgX ss fs[i]).flatMap edC))) := hrel
           have HGz : Hd (Fr (fun _ => False) w1 wz) := Fr.trans (by first | exact HGb.out | exact HGa.out) hE.1
           obtain ⟨r0, r1, r2, r3⟩ := HC.out wz HGz.out
           clear hE hrel)))
    all_goals
      go_wp2_with fail
      go_meet
      exact ⟨HGz, HREL.out⟩
  case rest =>
    obtain ⟨HG, hrel⟩ := hcut
    have HFc : Hd (Fr (fun _ => False) w wc) := HF1.out.trans HG.out
    rcases hrel with ⟨rfl, rfl⟩ | ⟨i, hi, rfl, hls, HCK, HTL, rfl, HROW⟩
    · clear p0 p1 p2 p3
      go_wp2_with fail
      go_ret
      exact ⟨rfl, HFc.out⟩
    · have hfr := right_ok HCK.out
      obtain ⟨hsh, hct⟩ := edg_all hfr HTL.out hls
      have hEl := edgX_len hfr HTL.out hls
      obtain ⟨va, vc, ev⟩ := own_slice HROW.out
      subst ev
      obtain ⟨q0, q1, q2, q3⟩ := HC.out wc HG.out
      obtain ⟨a', c', e', hff⟩ := H1.out.stay HFc.out
      cases e'
      obtain ⟨fk, fo, efa, hfk, hff⟩ := hff (by intro e; rw [e] at hi; simp at hi)
      obtain ⟨cv, g0, g1, g2, g3, hcv⟩ := hff i hi
      subst efa
      have HCV : Hd (CA wc cv fs[i].code) := hcv
      obtain ⟨ca, cc, ecv, -⟩ := hcv
      subst ecv
      have hi1 : (0 : Int) ≤ i := by omega
      have hi2 : (i : Int) < fs.length := by omega
      have hd1 : decide ((i : Int) < 0) = false := by simp
      have hd2 : decide ((i : Int) ≥ fs.length) = false := by simp; omega
      have hd3 : decide ((fs.length : Int) ≤ i) = false := by simp; omega
      have hd6 : decide (fs.length ≤ i) = false := by simp; omega
      have HCT : Hd (∀ c0 : Int, 1 + fs[i].R + fs[i].V ≤ c0 → c0 < 1 + fs[i].R + fs[i].V + (newsX fs[i].code : Nat) → cnt (edgX ss fs[i]) c0 = 1) := hct
      have HSH : Hd (∀ x ∈ edgX ss fs[i], Shp fs[i].R fs[i].V (newsX fs[i].code) x) := hsh
      have hRR := hfr.R
      have hVV := hfr.V
      have hLL := hfr.len
      have hnl := newsX_le fs[i].code
      clear hls hct hsh hfr hff HCK HTL p0 p1 p2 p3
      generalize hE : edgX ss fs[i] = E at *
      clear hE
      generalize fs[i] = f at *
      obtain ⟨r, hr⟩ : ∃ r : Nat, f.R = r := ⟨f.R.toNat, by omega⟩
      obtain ⟨vv, hv⟩ : ∃ vv : Nat, f.V = vv := ⟨f.V.toNat, by omega⟩
      obtain ⟨nn, hnn⟩ : ∃ nn : Nat, newsX f.code = nn := ⟨_, rfl⟩
      have HFL : Hd (flocX f.R f.V f.code = ((1 + r + vv + nn : Nat) : Int)) := by
        unfold Hd flocX
        rw [if_pos ⟨by omega, by omega⟩, cellX_is (by omega) (by omega), hr, hv, hnn]
        unfold wrap64
        omega
      have hlo : ∀ W, Fr (fun _ => False) wc W → Calls Tryd.prog 14 #[.agg #[vI f.P, vI f.R, vI f.V, .slice ca f.code.length cc]] W fun e w' => e = .returned (vI ((1 + r + vv + nn : Nat) : Int)) ∧ Fr (fun _ => False) W w' := fun W fW => by
        have := locations_any f _ W (HCV.out.stay fW) (by omega)
        rw [HFL.out] at this
        exact this
      have hlr : ∀ W, Fr (fun _ => False) wc W → Calls Tryd.prog 15 #[.agg #[vI f.P, vI f.R, vI f.V, .slice ca f.code.length cc]] W fun e w' => e = .returned (vI ((1 + r + vv + nn : Nat) : Int)) ∧ Fr (fun _ => False) W w' := fun W fW => by
        have := rlocations_any f _ W (HCV.out.stay fW) (by omega)
        rw [HFL.out] at this
        exact this
      rw [hr] at g1 hRR HSH HCT hlo hlr
      rw [hv] at g2 hVV HSH HCT hlo hlr
      rw [hnn] at hnl HSH HCT
      have HLO : Hd (∀ W, Fr (fun _ => False) wc W → Calls Tryd.prog 14 #[.agg #[vI f.P, vI (r : Int), vI (vv : Int), .slice ca f.code.length cc]] W fun e w' => e = .returned (vI ((1 + r + vv + nn : Nat) : Int)) ∧ Fr (fun _ => False) W w') := hlo
      have HLR : Hd (∀ W, Fr (fun _ => False) wc W → Calls Tryd.prog 15 #[.agg #[vI f.P, vI (r : Int), vI (vv : Int), .slice ca f.code.length cc]] W fun e w' => e = .returned (vI ((1 + r + vv + nn : Nat) : Int)) ∧ Fr (fun _ => False) W w') := hlr
      obtain ⟨wf, hwf⟩ : ∃ wf, wf = wc.alloc (.cells #[vI f.P, vI (r : Int), vI (vv : Int), .slice ca f.code.length cc] 30) := ⟨_, rfl⟩
      have HWF : Hd (wf = wc.alloc (.cells #[vI f.P, vI (r : Int), vI (vv : Int), .slice ca f.code.length cc] 30)) := hwf
      have hFf : Fr (fun _ => False) wc wf := by rw [hwf]; exact Fr.alloc (Fr.refl _ wc) _
      have hbf : wf.heap[wc.heap.size]? = some (.cells #[vI f.P, vI (r : Int), vI (vv : Int), .slice ca f.code.length cc] 30) := by rw [hwf]; exact heap_new wc _
      obtain ⟨Y, hY⟩ : ∃ Y, Y = wc.heap.size := ⟨_, rfl⟩
      have HY : Hd (Y = wc.heap.size) := hY
      rw [← hY] at hbf
      have HFf : Hd (Fr (fun _ => False) wc wf) := hFf
      have HCf : Hd (∀ W, Fr (fun _ => False) wf W → W.cell? ⟨Y, 0, none⟩ = some (vI f.P) ∧ W.cell? ⟨Y, 1, none⟩ = some (vI (r : Int)) ∧ W.cell? ⟨Y, 2, none⟩ = some (vI (vv : Int)) ∧ W.cell? ⟨Y, 3, none⟩ = some (.slice ca f.code.length cc)) := fun W fW => by
        have hb := (fW.block _ (heap_lt hbf) (fun h => h)).trans hbf
        exact ⟨by rw [cell_of hb]; rfl, by rw [cell_of hb]; rfl, by rw [cell_of hb]; rfl, by rw [cell_of hb]; rfl⟩
      clear hlo hlr hwf hFf hbf hY hr hv hnn
      go_upto_region 8 with fail
      rw [← HWF.out, ← HY.out]
      clear HWF HY g0 g1 g2 g3 q0 q1 q2 q3 hd1 hd2 hd3 hd6
      have r1 : decide ((r : Int) < 0) = false := by simp
      have r2 : decide ((r : Int) > 4) = false := by simp; omega
      have r3 : decide ((4 : Int) < r) = false := by simp; omega
      have v1 : decide ((vv : Int) < 0) = false := by simp
      have v2 : decide ((vv : Int) > 255) = false := by simp; omega
      have v3 : decide ((255 : Int) < vv) = false := by simp; omega
      have r4 : decide (4 < r) = false := by simp; omega
      have v4 : decide (255 < vv) = false := by simp; omega
      obtain ⟨m0, m1, m2, m3⟩ := HCf.out wf (Fr.refl _ _)
      go_cut [78] (fun x78 wx => x78 = .bool false ∧ Hd (Fr (fun _ => False) wf wx))
      case first =>
        go_region_held3 (fun w' => w'.cell? ⟨Y, 0, none⟩ = some (vI f.P) ∧ w'.cell? ⟨Y, 1, none⟩ = some (vI (r : Int)) ∧ w'.cell? ⟨Y, 2, none⟩ = some (vI (vv : Int)) ∧ w'.cell? ⟨Y, 3, none⟩ = some (.slice ca f.code.length cc)) (go_keep) ((
          first
            | (go_at_call 14
               refine (show Calls Tryd.prog 14 #[.agg #[vI f.P, vI (r : Int), vI (vv : Int), .slice ca f.code.length cc]] _ _ from HLO.out _ (by first | exact HFf.out.drew | exact HFf.out.trans HGb.out)).mono ?_
               rintro e wx ⟨rfl, hfx⟩
               have HGa : Hd (Fr (fun _ => False) wf wx) := by first | exact (Fr.drew (Fr.refl _ _)).trans hfx | exact HGb.out.trans hfx
               obtain ⟨s0, s1, s2, s3⟩ := HCf.out wx HGa.out
               clear hfx)
            | (go_at_call 15
               refine (show Calls Tryd.prog 15 #[.agg #[vI f.P, vI (r : Int), vI (vv : Int), .slice ca f.code.length cc]] _ _ from HLR.out _ (by first | exact HFf.out.drew | exact HFf.out.trans HGa.out)).mono ?_
               rintro e wy ⟨rfl, hfy⟩
               have HGb : Hd (Fr (fun _ => False) wf wy) := by first | exact (Fr.drew (Fr.refl _ _)).trans hfy | exact HGa.out.trans hfy
               obtain ⟨t0, t1, t2, t3⟩ := HCf.out wy HGb.out
               clear hfy)))
        all_goals
          go_wp2_with fail
          go_meet
          first
            | exact ⟨by simp, HGb⟩
            | exact ⟨by simp, HGa⟩
      case rest =>
        obtain ⟨rfl, HG2⟩ := hcut
        have HF2 : Hd (Fr (fun _ => False) w wc) := HFc.out.trans (HFf.out.trans HG2.out)
        have HROW2 : Hd (wc.ownsRow 0 47 3 (.slice va E.length vc) E.length (E.flatMap edC)) := ownsRow_frL HROW.out (HFf.out.trans HG2.out) (fun _ _ e => e)
        have hcall := HLR.out wc (HFf.out.trans HG2.out)
        clear m0 m1 m2 m3 r1 r2 r3 r4 v1 v2 v3 v4
        obtain ⟨m0, m1, m2, m3⟩ := HCf.out wc HG2.out
        go_wp2_with fail
        refine hcall.mono ?_
        rintro _ w5 ⟨rfl, hF5⟩
        have HF5 : Hd (Fr (fun _ => False) w w5) := HF2.out.trans hF5
        have HROW5 : Hd (w5.ownsRow 0 47 3 (.slice va E.length vc) E.length (E.flatMap edC)) := ownsRow_frL HROW2.out hF5 (fun _ _ e => e)
        clear m0 m1 m2 m3 hcall HROW HROW2 HLO HLR
        obtain ⟨m0, m1, m2, m3⟩ := HCf.out w5 (HG2.out.trans hF5)
        obtain ⟨n, hn⟩ : ∃ n, n = 1 + r + vv + nn := ⟨_, rfl⟩
        rw [← hn]
        have HN : Hd (n = 1 + r + vv + nn) := hn
        have hnb : n ≤ 5000 := by omega
        have hmk := make64 n (by omega) w5
        have hw1 : IntKind.i64.wrap (1 + (r : Int)) = 1 + r := wrap_small _ (by omega) (by omega)
        have hw2 : IntKind.i64.wrap (1 + (r : Int) + vv) = 1 + r + vv := wrap_small _ (by omega) (by omega)
        have HC6 : Hd ((w5.alloc (.cells (Array.replicate n (vI 0)) 3)).ownsRow w.heap.size 3 1 (.slice (some ⟨w5.heap.size, 0, none⟩) n n) n (ctl E 0 n)) := by
          unfold Hd
          rw [ctl_zero]
          exact ⟨by simp, Or.inr ⟨w5.heap.size, n, Array.replicate n (vI 0), rfl, HF5.out.size, heap_new w5 _, Nat.le_refl _, by unfold maxLen; omega, by simp, by simp⟩⟩
        have HF6 : Hd (Fr (fun _ => False) w (w5.alloc (.cells (Array.replicate n (vI 0)) 3))) := HF5.out.alloc _
        have HROW6 : Hd ((w5.alloc (.cells (Array.replicate n (vI 0)) 3)).ownsRow 0 47 3 (.slice va E.length vc) E.length (E.flatMap edC)) := ownsRow_frL HROW5.out (Fr.alloc (Fr.refl (fun _ => False) w5) _) (fun _ _ e => e)
        clear hF5 HROW5 hn
        go_upto_region 15 with fail
        obtain ⟨gc, hgc⟩ : ∃ gc, gc = w5.heap.size := ⟨_, rfl⟩
        rw [← hgc] at HC6 ⊢
        generalize w5.alloc (.cells (Array.replicate n (vI 0)) 3) = w6 at *
        clear hgc hmk m0 m1 m2 m3 hw1 hw2
        go_loopw [11] (fun v wr => ∃ (k : Nat), v = .int .i64 k ∧ k ≤ E.length ∧ Hd (wr.ownsRow w.heap.size 3 1 (.slice (some ⟨gc, 0, none⟩) n n) n (ctl E k n)) ∧ Hd (wr.ownsRow 0 47 3 (.slice va E.length vc) E.length (E.flatMap edC)) ∧ Hd (Fr (fun _ => False) w wr)) (fun v _ => match v with | .int _ q => E.length - q.toNat | _ => 0)
        case atStart => exact ⟨0, rfl, by omega, HC6.out, HROW6.out, HF6.out⟩
        case round =>
          clear HC6 HROW6 HF6
          obtain ⟨k, rfl, hk, HCt, HRo, HF⟩ := hrel
          by_cases hlt : k < E.length
          · have pc : ∀ o u, o < 3 → (edC E[k])[o]? = some u → ∃ g cap, Value.slice va E.length vc = .slice (some ⟨g, 0, none⟩) E.length cap ∧ g < wr.heap.size ∧ wr.cell? ⟨g, k * 3 + o, none⟩ = some u := fun o u ho hu => own_cell HRo.out (j := k * 3 + o) (u := u) (by rw [flat_get edC 3 (fun _ => rfl) E k o hlt ho]; exact hu)
            obtain ⟨lg, lcap, elg, hlgl, c0⟩ := pc 0 _ (by omega) rfl
            obtain ⟨lg1, lcap1, elg1, -, c1⟩ := pc 1 _ (by omega) rfl
            obtain ⟨lg2, lcap2, elg2, -, c2⟩ := pc 2 _ (by omega) rfl
            cases elg
            cases elg1
            cases elg2
            rw [Nat.add_zero] at c0
            have hS := HSH.out E[k] (List.getElem_mem hlt)
            obtain ⟨sN, hsN⟩ : ∃ sN : Nat, E[k].2.1 = sN := ⟨E[k].2.1.toNat, by have := hS.s1; omega⟩
            have HSU : Hd (sN < n → (ctl E k n).set sN (vI (((cnt (E.take k) sN : Nat) : Int) + 1)) = ctl E (k + 1) n) := fun h => ctl_succ hlt hsN h
            obtain ⟨s1, s2, d1, d2, k1, k2, h1, h2⟩ := hS
            rw [hsN] at s1 s2 h1 c1
            generalize E[k].1 = d at *
            generalize E[k].2.2 = q at *
            clear pc hsN
            have hNN := HN.out
            have hsn : sN < n := by omega
            have HSU2 : Hd ((ctl E k n).set sN (vI (((cnt (E.take k) sN : Nat) : Int) + 1)) = ctl E (k + 1) n) := HSU.out hsn
            have hcl := cnt_le (E.take k) sN
            rw [List.length_take] at hcl
            obtain ⟨g', cap', eg, -, ccell⟩ := own_cell HCt.out (j := sN) (u := _) (ctl_get E k n sN hsn)
            cases eg
            obtain ⟨cN, hcN⟩ : ∃ cN, cN = cnt (E.take k) sN := ⟨_, rfl⟩
            rw [← hcN] at ccell hcl HSU2
            have hcb : cN ≤ 163840 := by omega
            have hwc : IntKind.i64.wrap ((cN : Int) + 1) = cN + 1 := wrap_small _ (by omega) (by omega)
            obtain ⟨V, hV⟩ : ∃ V, V = wr.alloc (.cells #[vI d, vI (sN : Int), vI q] 47) := ⟨_, rfl⟩
            have HV : Hd (V = wr.alloc (.cells #[vI d, vI (sN : Int), vI q] 47)) := hV
            have hFV : Fr (fun _ => False) wr V := by rw [hV]; exact Fr.alloc (Fr.refl _ wr) _
            have hbV : V.heap[wr.heap.size]? = some (.cells #[vI d, vI (sN : Int), vI q] 47) := by rw [hV]; exact heap_new wr _
            obtain ⟨Z, hZ⟩ : ∃ Z, Z = wr.heap.size := ⟨_, rfl⟩
            have HZ : Hd (Z = wr.heap.size) := hZ
            rw [← hZ] at hbV
            have y0 : V.cell? ⟨Z, 0, none⟩ = some (vI d) := by rw [cell_of hbV]; rfl
            have y1 : V.cell? ⟨Z, 1, none⟩ = some (vI (sN : Int)) := by rw [cell_of hbV]; rfl
            have y2 : V.cell? ⟨Z, 2, none⟩ = some (vI q) := by rw [cell_of hbV]; rfl
            have hgl := (World.ownsRow.lt HCt.out gc rfl).2
            have hgw := (World.ownsRow.lt HCt.out gc rfl).1
            have cV : V.cell? ⟨gc, sN, none⟩ = some (vI (cN : Int)) := (hFV.cell hgl (fun h => h)).trans ccell
            have hCV := ownsRow_frL HCt.out hFV (fun _ _ e => e)
            have fV := (row_set (j := sN) hCV (vI 0)).2
            have HC2 : Hd ((V.setCell ⟨gc, sN, none⟩ (vI ((cN : Int) + 1))).ownsRow w.heap.size 3 1 (.slice (some ⟨gc, 0, none⟩) n n) n (ctl E (k + 1) n)) := by
              have := (row_set (j := sN) hCV (vI ((cN : Int) + 1))).1
              rw [HSU2.out] at this
              exact this
            have hFs := setCell_fr V gc sN (vI ((cN : Int) + 1))
            have HR2 : Hd ((V.setCell ⟨gc, sN, none⟩ (vI ((cN : Int) + 1))).ownsRow 0 47 3 (.slice (some ⟨lg, 0, none⟩) E.length vc) E.length (E.flatMap edC)) := ownsRow_frL (ownsRow_frL HRo.out hFV (fun _ _ e => e)) hFs (fun j e1 e2 => own_apart HCt.out HRo.out (by decide) j e1 (by rw [e2]; rfl))
            have HF3 : Hd (Fr (fun _ => False) w (V.setCell ⟨gc, sN, none⟩ (vI ((cN : Int) + 1)))) := (HF.out.trans hFV).then hFs (fun j hj e => by omega)
            have hk0 : (0 : Int) ≤ k := by omega
            have hk1 : (k : Int) < E.length := by omega
            have hs0 : (0 : Int) ≤ sN := by omega
            have hs1 : (sN : Int) < n := by omega
            clear hV hFV hbV hZ ccell hCV hFs hcN HSU HSU2 HCt HRo HF
            go_upto_region 18 with fail
            rw [← HV.out, ← HZ.out]
            clear HV HZ c0 c1 c2
            have a1 : decide ((sN : Int) < 1 + r) = false := by simp; omega
            have a2 : decide ((sN : Int) ≥ n) = false := by simp; omega
            have a3 : decide ((n : Int) ≤ sN) = false := by simp; omega
            have a4 : decide (n ≤ sN) = false := by simp; omega
            have a5 : decide (d < 0) = false := by simp; omega
            have a6 : decide (d ≥ 1 + (r : Int) + vv) = false := by simp; omega
            have a7 : decide (1 + (r : Int) + vv ≤ d) = false := by simp; omega
            have a8 : decide (q < -1) = false := by simp; omega
            have a9 : decide (q > 3) = false := by simp; omega
            have b9 : decide (3 < q) = false := by simp; omega
            by_cases hq : q = -1
            · have e1 : (q != -1) = false := by simp [hq]
              have e2 : (q == -1) = true := by simp [hq]
              have e3 : decide (d < 1 + (r : Int)) = false := by have := h2 hq; simp; omega
              by_cases hA : 1 + (r : Int) + vv ≤ sN
              · have f1 : decide ((sN : Int) ≥ 1 + (r : Int) + vv) = true := by simp; omega
                have f2 : decide (1 + (r : Int) + vv ≤ sN) = true := by simp; omega
                clear h1 h2 s1 s2 d1 d2 k1 k2 hcl hcb hNN hsn hq
                go_wp2_with fail
                exact ⟨⟨k + 1, castN k, hlt, HC2, HR2, HF3⟩, measN hlt⟩
              · have f1 : decide ((sN : Int) ≥ 1 + (r : Int) + vv) = false := by simp; omega
                have f2 : decide (1 + (r : Int) + vv ≤ sN) = false := by simp; omega
                clear h1 h2 s1 s2 d1 d2 k1 k2 hcl hcb hNN hsn hq
                go_wp2_with fail
                exact ⟨⟨k + 1, castN k, hlt, HC2, HR2, HF3⟩, measN hlt⟩
            · have e1 : (q != -1) = true := by simp [hq]
              have e2 : (q == -1) = false := by simp [hq]
              have hA : ¬ 1 + (r : Int) + vv ≤ sN := fun h => hq (h1 h)
              have f1 : decide ((sN : Int) ≥ 1 + (r : Int) + vv) = false := by simp; omega
              have f2 : decide (1 + (r : Int) + vv ≤ sN) = false := by simp; omega
              clear h1 h2 s1 s2 d1 d2 k1 k2 hcl hcb hNN hsn hq
              go_wp2_with fail
              exact ⟨⟨k + 1, castN k, hlt, HC2, HR2, HF3⟩, measN hlt⟩
          · have hke : k = E.length := by omega
            have HCe : Hd (wr.ownsRow w.heap.size 3 1 (.slice (some ⟨gc, 0, none⟩) n n) n (ctl E E.length n)) := by
              have h := HCt
              rw [hke] at h
              exact h
            have hdk : decide ((k : Int) < E.length) = false := by simp; omega
            clear HCt HRo hke
            go_wp2_with fail
            clear hdk
            go_loopw [13] (fun v wz => ∃ (c : Nat), v = .int .i64 c ∧ 1 + r + vv ≤ c ∧ c ≤ n ∧ wz = wr) (fun v _ => match v with | .int _ q => n - q.toNat | _ => 0)
            case atStart => exact ⟨1 + r + vv, by simp, by omega, by have := HN.out; omega, rfl⟩
            case round =>
              obtain ⟨c, rfl, hc1, hc2, rfl⟩ := hrel
              by_cases hcn : c < n
              · obtain ⟨g', cap', eg, -, ccell⟩ := own_cell HCe.out (j := c) (u := _) (ctl_get E E.length n c hcn)
                cases eg
                rw [List.take_length, HCT.out (c : Int) (by omega) (by have := HN.out; omega)] at ccell
                have hc0 : (0 : Int) ≤ c := by omega
                have hc3 : (c : Int) < n := by omega
                go_wp2_with fail
                exact ⟨⟨c + 1, castN c, Nat.le_succ_of_le hc1, hcn, by trivial⟩, measN hcn⟩
              · have hdc : decide ((c : Int) < n) = false := by simp; omega
                go_wp2_with fail
                go_ret
                exact ⟨rfl, HF.out⟩
end Go.Proofs.YtlmlmhinbkcpoaaDoor
