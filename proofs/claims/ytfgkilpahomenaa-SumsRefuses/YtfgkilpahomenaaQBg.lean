import Derived.Test.YtfgkilpahomenaaQBbJ
namespace Go.Proofs.Ytfgkilpahomenaa
open Go.RowKit (wrap32 wrap64)
set_option linter.unusedVariables false
set_option linter.unusedSimpArgs false

set_option maxRecDepth 100000 in
set_option maxHeartbeats 8000000 in
theorem refuses_heap (p r nn by' : Int) (va vb vc : Value) (la lb lc : List Int) (w : World) (ha : IA w va la) (hb : IA w vb lb) (hc : IA w vc lc) (za : la.length ≤ 17592186043904) (hcase : ∀ P R K : Nat, modX p 9 = P → modX r 5 = R → modX nn (P * (R + 1) : Nat) = K → K % (R + 1) = 0) :
    Calls Try.prog 4 #[.agg #[vI p, vI r, va, vb, vc], vI nn, vI by'] w fun e w' => e = .returned (.bool true) ∧ Fr (fun _ => False) w w' := by
  have IAa : Hd (IA w va la) := ha
  obtain ⟨aa1, aa2, rfl, -⟩ := ha
  obtain ⟨bb1, bb2, rfl, -⟩ := hb
  obtain ⟨cc1, cc2, rfl, -⟩ := hc
  obtain ⟨P, hP⟩ : ∃ P : Nat, modX p 9 = P := ⟨(modX p 9).toNat, by have := modX_bound p 9 (by omega); omega⟩
  obtain ⟨R, hR⟩ : ∃ R : Nat, modX r 5 = R := ⟨(modX r 5).toNat, by have := modX_bound r 5 (by omega); omega⟩
  have hP8 : P ≤ 8 := by have := modX_bound p 9 (by omega); omega
  have hR4 : R ≤ 4 := by have := modX_bound r 5 (by omega); omega
  have HP : Hd (modX p 9 = P) := hP
  have HR : Hd (modX r 5 = R) := hR
  have HC : Hd (∀ K : Nat, modX nn (P * (R + 1) : Nat) = K → K % (R + 1) = 0) := fun K e => hcase P R K hP hR e
  clear hP hR hcase
  obtain ⟨H, hH⟩ : ∃ H, H = w.heap.size := ⟨_, rfl⟩
  obtain ⟨w0, hw0⟩ : ∃ w0, w0 = w.alloc (.cells #[vI p, vI r, .slice aa1 la.length aa2, .slice bb1 lb.length bb2, .slice cc1 lc.length cc2] 24) := ⟨_, rfl⟩
  have HH : Hd (H = w.heap.size) := hH
  have HW0 : Hd (w0 = w.alloc (.cells #[vI p, vI r, .slice aa1 la.length aa2, .slice bb1 lb.length bb2, .slice cc1 lc.length cc2] 24)) := hw0
  have LT : Hd (w0.heap[H]? = some (.cells #[vI p, vI r, .slice aa1 la.length aa2, .slice bb1 lb.length bb2, .slice cc1 lc.length cc2] 24)) := by unfold Hd; rw [hw0, hH]; exact heap_new w _
  have HF : Hd (Fr (fun _ => False) w w0) := by unfold Hd; rw [hw0]; exact Fr.alloc (Fr.refl _ w) _
  clear hH hw0
  go_enter Try.func4, Try.ntmps4
  go_upto_region 1 with fail
  rw [← HW0.out, ← HH.out]
  clear HW0
  go_wp2_with fail
  refine (show Calls Try.prog 7 #[] w0 _ from fixed_any w0).mono ?_
  rintro e w1 ⟨rfl, hF1⟩
  have LT : Hd (w1.heap[H]? = some (.cells #[vI p, vI r, .slice aa1 la.length aa2, .slice bb1 lb.length bb2, .slice cc1 lc.length cc2] 24)) := keepF LT.out hF1
  have HF : Hd (Fr (fun _ => False) w w1) := HF.out.trans hF1
  clear hF1
  have q0 : w1.cell? ⟨H, 0, none⟩ = some (vI p) := by rw [cell_of LT.out]; rfl
  have q1 : w1.cell? ⟨H, 1, none⟩ = some (vI r) := by rw [cell_of LT.out]; rfl
  have q2 : w1.cell? ⟨H, 2, none⟩ = some (.slice aa1 la.length aa2) := by rw [cell_of LT.out]; rfl
  go_wp2_with fail
  refine (show Calls Try.prog 8 #[vI p, vI r, .slice aa1 la.length aa2] w1 _ from shaped_form p r P R _ la w1 (IAa.out.stay HF.out) za HP.out HR.out).mono ?_
  clear q0 q1 q2
  rintro e w2 ⟨s, ha1, ha2, ra1, ra2, rfl, hsa, hrt, hF1⟩
  obtain ⟨w3, hw⟩ : ∃ W, W = (w2.alloc (fBox P R)).alloc (.cells #[.slice ha1 P ha2, .slice ra1 P ra2] 31) := ⟨_, rfl⟩
  obtain ⟨XF, hXF⟩ : ∃ X, X = w2.heap.size := ⟨_, rfl⟩
  have hF2 : Fr (fun _ => False) w2 w3 := by rw [hw]; exact Fr.alloc (Fr.alloc (Fr.refl _ _) _) _
  have LF : Hd (w3.heap[XF]? = some (fBox P R)) := by unfold Hd; rw [hw, hXF]; exact keepA (heap_new _ _) _
  have hbk : w3.heap[XF + 1]? = some (.cells #[.slice ha1 P ha2, .slice ra1 P ra2] 31) := by
    have := heap_new (w2.alloc (fBox P R)) (.cells #[.slice ha1 P ha2, .slice ra1 P ra2] 31)
    rw [World.size_alloc, ← hXF, ← hw] at this; exact this
  have HF : Hd (Fr (fun _ => False) w w3) := (HF.out.trans hF1).trans hF2
  have HRT : Hd (PS.Right P R s) := hrt
  go_upto_region 3 with fail
  rw [← hXF, ← hw]
  obtain ⟨Xs, hXs⟩ : ∃ X, X = XF + 1 := ⟨_, rfl⟩
  rw [← hXs] at hbk ⊢
  have Ls : Hd (LocS w3 Xs (.slice ha1 P ha2) (.slice ra1 P ra2) s) := ⟨hbk, hsa.stay hF2⟩
  clear hsa hrt hF1 hF2 hw hXF hXs hbk LT IAa HP HR
  have f0 : w3.cell? ⟨XF, 0, none⟩ = some (vI P) := by rw [cell_of LF.out]; rfl
  by_cases hP0 : P = 0
  · subst hP0
    go_wp2_with fail
    go_ret
    exact ⟨rfl, HF.out⟩
  · have hPb : ((P : Int) == 0) = false := by simp; omega
    have q0 := Ls.out.x
    have q1 := Ls.out.y
    go_wp2_with fail
    refine (show Calls Try.prog 13 #[.agg #[.slice ha1 P ha2, .slice ra1 P ra2]] w3 _ from copySummary_any _ s w3 Ls.out.sa (HRT.out.fits hP8 hR4) (by have := HRT.out.rl; omega)).mono ?_
    rintro e w4 ⟨hv, rv, us, rfl, hso, hF1⟩
    obtain ⟨⟨ta, tc, ehv⟩, tra, trc, erv⟩ := SA.pair_form hso.sa
    rw [HRT.out.hl] at ehv
    rw [HRT.out.rl] at erv
    obtain ⟨w5, hw⟩ : ∃ W, W = w4.alloc (.cells #[hv, rv] 31) := ⟨_, rfl⟩
    obtain ⟨Xt, hXt⟩ : ∃ X, X = w4.heap.size := ⟨_, rfl⟩
    have hF2 : Fr (fun _ => False) w4 w5 := by rw [hw]; exact Fr.alloc (Fr.refl _ _) _
    have hbt : w5.heap[Xt]? = some (.cells #[hv, rv] 31) := by rw [hw, hXt]; exact heap_new _ _
    have HSO : Hd (SO w5 (w3.heap.size + 2) hv rv us s) := hso.keep hF2
    have HBT : Hd (w5.heap[Xt]? = some (.cells #[hv, rv] 31)) := hbt
    have Ls5 : Hd (LocS w5 Xs (.slice ha1 P ha2) (.slice ra1 P ra2) s) := Ls.out.keep (hF1.trans hF2)
    have LF5 : Hd (w5.heap[XF]? = some (fBox P R)) := keepF LF.out (hF1.trans hF2)
    have HF5 : Hd (Fr (fun _ => False) w3 w5) := hF1.trans hF2
    have HXT : Hd (w3.heap.size ≤ Xt) := by unfold Hd; rw [hXt]; exact hF1.size
    subst ehv
    subst erv
    go_upto_region 6 with fail
    rw [← hXt, ← hw]
    clear q0 q1 f0 hso hF1 hF2 hw hXt hbt hPb
    have f0 : w5.cell? ⟨XF, 0, none⟩ = some (vI P) := by rw [cell_of LF5.out]; rfl
    have f1 : w5.cell? ⟨XF, 1, none⟩ = some (vI R) := by rw [cell_of LF5.out]; rfl
    go_wp2_with fail
    obtain ⟨M, hM⟩ : ∃ M, M = P * (R + 1) := ⟨_, rfl⟩
    have hM1 : 1 ≤ M := by rw [hM]; exact Nat.mul_pos (by omega) (by omega)
    have hM2 : M ≤ 40 := by rw [hM]; have : P * (R + 1) ≤ 8 * 5 := Nat.mul_le_mul (by omega) (by omega); omega
    have hmc : ((P : Int) * ((R : Int) + 1)) = (M : Int) := by rw [hM]; simp
    have hmw : wrap64 ((P : Int) * ((R : Int) + 1)) = (M : Int) := by rw [hmc]; exact w64 (by omega) (by omega)
    rw [hmw]
    refine (show Calls Try.prog 14 #[vI nn, vI (M : Int)] w5 _ from mod_any nn M (by omega) (by omega) w5).mono ?_
    rintro e w6 ⟨rfl, rfl⟩
    obtain ⟨K, hK⟩ : ∃ K : Nat, modX nn M = K := ⟨(modX nn M).toNat, by have := modX_bound nn M (by omega); omega⟩
    have hKM : K < M := by have := modX_bound nn M (by omega); omega
    rw [hK]
    obtain ⟨I, hI⟩ : ∃ I, I = K / (R + 1) := ⟨_, rfl⟩
    obtain ⟨J, hJ⟩ : ∃ J, J = K % (R + 1) := ⟨_, rfl⟩
    have hIP : I < P := by rw [hI]; exact Nat.div_lt_of_lt_mul (by rw [Nat.mul_comm, ← hM]; exact hKM)
    have hJR : J < R + 1 := by rw [hJ]; exact Nat.mod_lt _ (by omega)
    have hd : (K : Int).tdiv ((R : Int) + 1) = (I : Int) := by rw [hI]; rfl
    have hm : (K : Int).tmod ((R : Int) + 1) = (J : Int) := by rw [hJ]; rfl
    have hne : ¬ ((R : Int) + 1 = 0) := by omega
    have hK40 : K ≤ 40 := by omega
    have hI0 : (0 : Int) ≤ I := by omega
    have hI1 : (I : Int) < P := by omega
    have hcs : J = 0 := by rw [hJ]; exact HC.out K (by rw [← hM]; exact hK)
    clear hmw hmc hM hK hI hJ hKM HC
    by_cases hJ0 : J = 0
    · subst hJ0
      obtain ⟨g, gc, z, eg, hgB, gcell, gfz, hsaT⟩ := HSO.out.setH (i := I) (by rw [HRT.out.hl]; exact hIP)
      rw [HRT.out.hl] at eg
      injection eg with eg1 eg2 eg3
      subst eg1
      subst eg3
      clear eg2
      obtain ⟨w7, hw7⟩ : ∃ W, W = w6.setCell ⟨g, I, none⟩ (vI by') := ⟨_, rfl⟩
      have f7 : Fr (fun k => w3.heap.size ≤ k) w3 w7 := by rw [hw7]; exact (HF5.out.mono (fun _ _ e => e.elim)).then (setCell_fr w6 g I _) (fun j _ e => by omega)
      have HBT7 : w7.heap[Xt]? = some (.cells #[.slice (some ⟨g, 0, none⟩) P tc, .slice tra P trc] 31) := by
        rw [hw7]; exact ((setCell_fr w6 g I _).block Xt (heap_lt HBT.out) (box_ne HBT.out gcell)).trans HBT.out
      obtain ⟨t, ht⟩ : ∃ t : PS, t = ⟨s.heap.set I by', s.res⟩ := ⟨_, rfl⟩
      have hst := PS.setH HRT.out (i := I) (by rw [HRT.out.hl]; exact hIP) by'
      rw [← ht] at hst
      have Lt : Hd (LocS w7 Xt (.slice (some ⟨g, 0, none⟩) P tc) (.slice tra P trc) t) := ⟨HBT7, by rw [hw7, ht]; exact hsaT by'⟩
      have HSh : Hd (PS.Shaped P R t) := hst.1
      have HOk : Hd (t.okAll = okN by') := hst.2
      have Ls7 : Hd (LocS w7 Xs (.slice ha1 P ha2) (.slice ra1 P ra2) s) := Ls.out.up (Nat.le_refl _) f7
      have LF7 : Hd (w7.heap[XF]? = some (fBox P R)) := (f7.block XF (heap_lt LF.out) (by have := heap_lt LF.out; omega)).trans LF.out
      have HF7 : Hd (Fr (fun _ => False) w w7) := HF.out.then f7 (fun j hj e => by have := HF.out.size; omega)
      have qb : w6.cell? ⟨Xt, 0, none⟩ = some (.slice (some ⟨g, 0, none⟩) P tc) := by rw [cell_of HBT.out]; rfl
      go_upto_region 11 with fail
      rw [← hw7]
      clear gcell gfz hsaT f7 HBT7 hst ht hw7 qb f0 f1 hd hm hne HSO HBT Ls5 LF5 HF5 Ls LF HF HXT
      go_cut [13] (fun v wx => v = .bool (okN by') ∧ wx = w7)
      case first =>
        by_cases h0 : by' ≥ 0
        · by_cases h1 : by' ≤ 3
          · go_wp2_with fail
            go_meet
            exact ⟨by simp [okN, h1]; omega, rfl⟩
          · by_cases h2 : by' = 9
            · have h3 : (by' == 9) = true := by simpa using h2
              have HX : Hd (by' = 9) := h2
              clear h2
              go_wp2_with fail
              go_meet
              exact ⟨by rw [HX.out]; rfl, rfl⟩
            · have h3 : (by' == 9) = false := by simpa using h2
              go_wp2_with fail
              go_meet
              exact ⟨by simp [okN, h1, h2], rfl⟩
        · have h2 : ¬ by' = 9 := by omega
          have h3 : (by' == 9) = false := by simpa using h2
          go_wp2_with fail
          go_meet
          exact ⟨by simp [okN, h2]; omega, rfl⟩
      case rest =>
        obtain ⟨rfl, rfl⟩ := hcut
        obtain ⟨ok, hok⟩ : ∃ ok, ok = okN by' := ⟨_, rfl⟩
        rw [← hok] at HOk ⊢
        clear hok
        have f0 : wc.cell? ⟨XF, 0, none⟩ = some (vI P) := by rw [cell_of LF7.out]; rfl
        have f1 : wc.cell? ⟨XF, 1, none⟩ = some (vI R) := by rw [cell_of LF7.out]; rfl
        have f2 : wc.cell? ⟨XF, 2, none⟩ = some (vI 0) := by rw [cell_of LF7.out]; rfl
        have f3 : wc.cell? ⟨XF, 3, none⟩ = some (.slice none 0 0) := by rw [cell_of LF7.out]; rfl
        have q0 := Lt.out.x
        have q1 := Lt.out.y
        have hXl := heap_lt Lt.out.blk
        have ne1 : wc.heap.size ≠ Xt := by omega
        have ne2 : Xt ≠ wc.heap.size := by omega
        go_wp2_with fail
        obtain ⟨W, hW⟩ : ∃ W, W = (wc.alloc (.cells #[vI P, vI R, vI 0, .slice none 0 0] 28)).alloc (.cells #[.slice (some ⟨g, 0, none⟩) P tc, .slice tra P trc] 31) := ⟨_, rfl⟩
        have e2 : W.heap[wc.heap.size]? = some (fBox P R) := by rw [hW]; exact keepA (heap_new _ _) _
        have e3 : W.heap[wc.heap.size + 1]? = some (.cells #[.slice (some ⟨g, 0, none⟩) P tc, .slice tra P trc] 31) := by
          have := heap_new (wc.alloc (.cells #[vI P, vI R, vI 0, .slice none 0 0] 28)) (.cells #[.slice (some ⟨g, 0, none⟩) P tc, .slice tra P trc] 31)
          rw [World.size_alloc, ← hW] at this; exact this
        have hFW : Fr (fun _ => False) wc W := by rw [hW]; exact Fr.alloc (Fr.alloc (Fr.refl _ _) _) _
        have hfs : FsA W (.slice (some ⟨wc.heap.size, 0, none⟩) 1 1) [⟨P, R, 0, none, 0, 0⟩] := ⟨_, 1, rfl, fun _ => ⟨_, rfl, heap_lt e2, fun j hj => by
          obtain rfl : j = 0 := by simpa using hj
          exact ⟨by rw [cell_of e2]; rfl, by rw [cell_of e2]; rfl, by rw [cell_of e2]; rfl, by rw [cell_of e2]; rfl⟩⟩⟩
        have hsW := Lt.out.sa.stay hFW
        have hss : SsA W (.slice (some ⟨wc.heap.size + 1, 0, none⟩) 1 1) [t] := ⟨_, 1, rfl, fun _ => ⟨_, rfl, heap_lt e3, fun j hj => by
          obtain rfl : j = 0 := by simpa using hj
          obtain ⟨hv, rv, e, h1, h2⟩ := hsW
          injection e with e
          have ea : .slice (some ⟨g, 0, none⟩) P tc = hv := by have := congrArg (fun a => a[0]?) e; simpa using this
          have eb : .slice tra P trc = rv := by have := congrArg (fun a => a[1]?) e; simpa using this
          exact ⟨hv, rv, by rw [cell_of e3, ← ea]; rfl, by rw [cell_of e3, ← eb]; rfl, h1, h2⟩⟩⟩
        rw [← hW]
        have HFS : Hd _ := hfs
        have HSS : Hd _ := hss
        have HEN : Hd (encE [⟨P, R, 0, none, 0, 0⟩] [t] = if ok = true then 0 else 90) := by unfold Hd; rw [encE_one HSh.out hP8 hR4, HOk.out]
        have HFW : Hd (Fr (fun _ => False) wc W) := hFW
        clear e2 e3 hFW hfs hss hsW hW f0 f1 f2 f3 q0 q1 ne1 ne2 hXl
        refine (show Calls Try.prog 15 #[.slice (some ⟨wc.heap.size, 0, none⟩) 1 1, .slice (some ⟨wc.heap.size + 1, 0, none⟩) 1 1] W _ from encode_any _ _ [⟨P, R, 0, none, 0, 0⟩] [t] W HFS.out HSS.out (by simp) (by simp) (by intro x hx; simp at hx; subst hx; exact HSh.out.fits hP8 hR4)).mono ?_
        rintro e w8 ⟨bv, rfl, -, hF2⟩
        rw [HEN.out]
        obtain ⟨EE, hEE⟩ : ∃ x : Int, x = if ok = true then 0 else 90 := ⟨_, rfl⟩
        rw [← hEE]
        have HEE : Hd (EE = if ok = true then 0 else 90) := hEE
        clear hEE
        have hF8 := HFW.out.trans hF2
        have Ls8 : Hd (LocS w8 Xs (.slice ha1 P ha2) (.slice ra1 P ra2) s) := Ls7.out.keep hF8
        have Lt8 : Hd (LocS w8 Xt (.slice (some ⟨g, 0, none⟩) P tc) (.slice tra P trc) t) := Lt.out.keep hF8
        have LF8 : Hd (w8.heap[XF]? = some (fBox P R)) := keepF LF7.out hF8
        have HF8 : Hd (Fr (fun _ => False) w w8) := HF7.out.trans hF8
        clear hF2 hF8 HFS HSS HEN HFW Ls7 Lt LF7 HF7
        have q0 := Lt8.out.x
        have q1 := Lt8.out.y
        have q2 := Ls8.out.x
        have q3 := Ls8.out.y
        go_wp2_with fail
        refine (show Calls Try.prog 12 #[.agg #[.slice (some ⟨g, 0, none⟩) P tc, .slice tra P trc], .agg #[.slice ha1 P ha2, .slice ra1 P ra2]] w8 _ from meet_err _ _ t s w8 Lt8.out.sa Ls8.out.sa (HSh.out.fits hP8 hR4) (HRT.out.fits hP8 hR4) (by have := HSh.out.rl; omega)).mono ?_
        rintro e w9 ⟨xa, xn, xc, ya, yn, yc, rfl, hF2⟩
        rw [show (if t.pair s = true then (0 : Int) else 90) = EE by rw [HSh.out.pair HRT.out, HOk.out, HEE.out]]
        clear q0 q1 q2 q3
        obtain ⟨wd, hwd⟩ : ∃ W, W = w9.alloc (.cells #[.slice xa xn xc, .slice ya yn yc] 31) := ⟨_, rfl⟩
        have hF9 : Fr (fun _ => False) w8 wd := by rw [hwd]; exact hF2.trans (Fr.alloc (Fr.refl _ _) _)
        have Ls9 : Hd (LocS wd Xs (.slice ha1 P ha2) (.slice ra1 P ra2) s) := Ls8.out.keep hF9
        have Lt9 : Hd (LocS wd Xt (.slice (some ⟨g, 0, none⟩) P tc) (.slice tra P trc) t) := Lt8.out.keep hF9
        have LF9 : Hd (wd.heap[XF]? = some (fBox P R)) := keepF LF8.out hF9
        have HF9 : Hd (Fr (fun _ => False) w wd) := HF8.out.trans hF9
        go_upto_region 14 with fail
        rw [← hwd]
        clear hF2 hF9 hwd Ls8 Lt8 LF8 HF8
        have q0 := Lt9.out.x
        have q1 := Lt9.out.y
        go_wp2_with fail
        refine (show Calls Try.prog 9 #[.agg #[.slice (some ⟨g, 0, none⟩) P tc, .slice tra P trc], .agg #[.slice (some ⟨g, 0, none⟩) P tc, .slice tra P trc]] wd _ from above_any _ _ t t wd Lt9.out.sa Lt9.out.sa (HSh.out.fits hP8 hR4) (HSh.out.fits hP8 hR4)).mono ?_
        rintro e we ⟨rfl, hF2⟩
        rw [PS.above_self, HOk.out]
        have Ls8 : Hd (LocS we Xs (.slice ha1 P ha2) (.slice ra1 P ra2) s) := Ls9.out.keep hF2
        have Lt8 : Hd (LocS we Xt (.slice (some ⟨g, 0, none⟩) P tc) (.slice tra P trc) t) := Lt9.out.keep hF2
        have LF8 : Hd (we.heap[XF]? = some (fBox P R)) := keepF LF9.out hF2
        have HF8 : Hd (Fr (fun _ => False) w we) := HF9.out.trans hF2
        clear hF2 q0 q1 Ls9 Lt9 LF9 HF9
        have HCK : Hd (checkE P R t = if ok = true then 0 else 90) := by unfold Hd; rw [checkE_of hP8 hR4, HSh.out.right, HOk.out]
        go_upto_region 15 with fail
        go_cut [130] (fun v wx => v = .bool false ∧ Hd (Fr (fun _ => False) we wx))
        case first =>
          have f0 : we.cell? ⟨XF, 0, none⟩ = some (vI P) := by rw [cell_of LF8.out]; rfl
          have f1 : we.cell? ⟨XF, 1, none⟩ = some (vI R) := by rw [cell_of LF8.out]; rfl
          have f2 : we.cell? ⟨XF, 2, none⟩ = some (vI 0) := by rw [cell_of LF8.out]; rfl
          have f3 : we.cell? ⟨XF, 3, none⟩ = some (.slice none 0 0) := by rw [cell_of LF8.out]; rfl
          have q0 := Lt8.out.x
          have q1 := Lt8.out.y
          have HCK2 : Hd (checkE P R t = EE) := by unfold Hd; rw [HCK.out, HEE.out]
          have hEE := HEE.out
          cases ok
          all_goals
            simp only [Bool.false_eq_true, if_false, if_true] at hEE
            subst hEE
            go_wp2_with fail
            refine (show Calls Try.prog 11 #[.agg #[vI P, vI R, vI 0, .slice none 0 0], .agg #[.slice (some ⟨g, 0, none⟩) P tc, .slice tra P trc]] we _ from check_any P R 0 none 0 0 _ t we Lt8.out.sa (HSh.out.fits hP8 hR4)).mono ?_
            rintro e wy ⟨rfl, hFy⟩
            rw [HCK2.out]
            have HFy : Hd _ := hFy
            clear hFy f0 f1 f2 f3 q0 q1
            go_wp2_with fail
            go_meet
            exact ⟨rfl, HFy.out⟩
        case rest =>
          obtain ⟨rfl, hFc⟩ := hcut
          have Ls9 : Hd (LocS wc Xs (.slice ha1 P ha2) (.slice ra1 P ra2) s) := Ls8.out.keep hFc.out
          have HF9 : Hd (Fr (fun _ => False) w wc) := HF8.out.trans hFc.out
          have LF9 : Hd (wc.heap[XF]? = some (fBox P R)) := keepF LF8.out hFc.out
          clear hFc Ls8 Lt8 LF8 HF8 HCK HEE HSh HOk
          have q0 := Ls9.out.x
          have q1 := Ls9.out.y
          go_wp2_with fail
          refine (show Calls Try.prog 13 #[.agg #[.slice ha1 P ha2, .slice ra1 P ra2]] wc _ from copySummary_any _ s wc Ls9.out.sa (HRT.out.fits hP8 hR4) (by have := HRT.out.rl; omega)).mono ?_
          rintro e wf ⟨hv, rv, us, rfl, hso, hF1⟩
          have hul : us.length = P := by rw [hso.lo.ul, HRT.out.rl]
          have hIu : I < us.length := by rw [hul]; exact hIP
          have hIr : I < s.res.length := by rw [HRT.out.rl]; exact hIP
          have hrl := (HRT.out.ro _ (List.getElem_mem hIr)).1
          obtain ⟨⟨oa, oc, ehv⟩, -⟩ := SA.pair_form hso.sa
          rw [HRT.out.hl] at ehv
          obtain ⟨rg, rc, cs, erv, hrB, hrb, hrc⟩ := hso.lo.at hIu
          obtain ⟨ua, uc, eui⟩ := own_slice (hso.lo.each I hIu hIr)
          rw [hrl] at eui
          obtain ⟨wg, hwg⟩ : ∃ W, W = wf.alloc (.cells #[hv, rv] 31) := ⟨_, rfl⟩
          obtain ⟨Xu, hXu⟩ : ∃ X, X = wf.heap.size := ⟨_, rfl⟩
          have hF2 : Fr (fun _ => False) wf wg := by rw [hwg]; exact Fr.alloc (Fr.refl _ _) _
          have hbu : wg.heap[Xu]? = some (.cells #[hv, rv] 31) := by rw [hwg, hXu]; exact heap_new _ _
          have hsz : wc.heap.size + 2 ≤ wg.heap.size := by have h9 := (hrB : wc.heap.size + 2 ≤ rg); have h8 := heap_lt (keepF hrb hF2); omega
          have hsog := hso.keep hF2
          obtain ⟨wb, hwb⟩ : ∃ W, W = (wg.alloc (.cells #[vI 0] 3)).drew := ⟨_, rfl⟩
          have hFb : Fr (fun _ => False) wg wb := by rw [hwb]; exact Fr.drew (Fr.alloc (Fr.refl _ _) _)
          have hsob := hsog.keep hFb
          have hFcb : Fr (fun _ => False) wc wb := (hF1.trans hF2).trans hFb
          have hbub := keepF hbu hFb
          have hne : rg ≠ Xu := fun e => by have h9 := keepF hrb hF2; rw [e, hbu] at h9; injection (Option.some.inj h9) with _ e3; exact absurd e3 (by decide)
          have HNE : Hd (rg ≠ Xu) := hne
          have HSO : Hd (SO wb (wc.heap.size + 2) hv rv us s) := hsob
          have HBU : Hd (wb.heap[Xu]? = some (.cells #[hv, rv] 31)) := hbub
          have HFCB : Hd (Fr (fun _ => False) wc wb) := hFcb
          have HRV : Hd (rv = .slice (some ⟨rg, 0, none⟩) us.length rc) := erv
          have HIU : Hd (I < us.length) := hIu
          have HIR : Hd (I < s.res.length) := hIr
          have hui : wb.ownsRow (wc.heap.size + 2) 3 1 (.slice ua R uc) R (s.res[I].map vI) := by
            have h9 := hsob.lo.each I hIu hIr
            unfold IOwn at h9
            rw [eui, hrl] at h9
            exact h9
          have HUI : Hd (wb.ownsRow (wc.heap.size + 2) 3 1 (.slice ua R uc) R (s.res[I].map vI)) := hui
          have HEUI : Hd (us[I] = .slice ua R uc) := eui
          have HRL : Hd (s.res[I].length = R) := hrl
          have hnews : ∀ j u, [vI 0][j]? = some u → wb.cell? ((⟨wg.heap.size, 0, none⟩ : Addr).add j) = some u := by
            rw [hwb]; exact World.news_of_block (cs := #[vI 0]) (heap_new wg (.cells #[vI 0] 3))
          have hws : wb.heap.size = wg.heap.size + 1 := by rw [hwb]; simp
          have hbase : wc.heap.size + 2 ≤ wb.heap.size := by omega
          have erv2 : rv = .slice (some ⟨rg, 0, none⟩) P rc := by rw [erv, hul]
          have x1 : wg.cell? ⟨Xu, 1, none⟩ = some (.slice (some ⟨rg, 0, none⟩) P rc) := by rw [cell_of hbu, ← erv2]; rfl
          have x1b : wb.cell? ⟨Xu, 1, none⟩ = some (.slice (some ⟨rg, 0, none⟩) P rc) := by rw [cell_of hbub, ← erv2]; rfl
          have x2 : wg.cell? ⟨rg, I, none⟩ = some (.slice ua R uc) := by rw [hF2.cell (heap_lt hrb) (fun e => e), hrc I hIu, eui]
          have x2b : wb.cell? ⟨rg, I, none⟩ = some (.slice ua R uc) := by rw [hFb.cell (heap_lt (keepF hrb hF2)) (fun e => e)]; exact x2
          have HAFT : Hd (∀ w6 g6 cap6, wb.grownBy w6 (Value.slice ua R uc).ownBlock → w6.ownsRow (wc.heap.size + 2) 3 1 (.slice (some ⟨g6, 0, none⟩) (R + 1) cap6) (R + 1) (s.res[I].map vI ++ [vI 0]) → w6.cell? ⟨Xu, 1, none⟩ = some (.slice (some ⟨rg, 0, none⟩) P rc) ∧ w6.cell? ⟨rg, I, none⟩ = some (.slice ua R uc) ∧ w6.frozen? ⟨rg, I, none⟩ = false ∧ LocS (w6.setCell ⟨rg, I, none⟩ (.slice (some ⟨g6, 0, none⟩) (R + 1) cap6)) Xu hv rv ⟨s.heap, s.res.set I (s.res[I] ++ [0])⟩ ∧ Fr (fun k => wc.heap.size ≤ k) wc (w6.setCell ⟨rg, I, none⟩ (.slice (some ⟨g6, 0, none⟩) (R + 1) cap6))) := fun w6 g6 cap6 hg ho => by
            have hg' : wb.grownBy w6 us[I].ownBlock := by rw [HEUI.out]; exact hg
            have ho' : w6.ownsRow (wc.heap.size + 2) 3 1 (.slice (some ⟨g6, 0, none⟩) (s.res[I].length + 1) cap6) (s.res[I].length + 1) (s.res[I].map vI ++ [vI 0]) := by rw [HRL.out]; exact ho
            obtain ⟨k1, k2, k3, k4⟩ := HSO.out.app HIR.out HIU.out HRV.out hg' ho'
            have b6 : w6.heap[Xu]? = some (.cells #[hv, rv] 31) := grow_keep3 HUI.out hg HBU.out (by decide)
            have hrl' : (s.res[I]'HIR.out).length = R := HRL.out
            rw [hrl'] at k1
            refine ⟨by rw [cell_of b6, ← erv2]; rfl, k2.trans (congrArg some HEUI.out), k3, ⟨((setCell_fr w6 rg I _).block Xu (heap_lt b6) (fun e => HNE.out e.symm)).trans b6, k1⟩, ?_⟩
            have f1 : Fr (fun k => wc.heap.size ≤ k) wc w6 := (HFCB.out.mono (fun _ _ e => e.elim)).then (grown_fr hg) (fun j _ e => by have := (World.ownsRow.lt HUI.out j e).1; omega)
            exact f1.then (setCell_fr w6 rg I _) (fun j _ e => by omega)
          have ne1 : wg.heap.size ≠ Xu := by have := heap_lt hbu; omega
          have ne2 : Xu ≠ wg.heap.size := by omega
          have ne3 : wg.heap.size ≠ rg := by have := heap_lt (keepF hrb hF2); omega
          have ne4 : rg ≠ wg.heap.size := by omega
          clear erv
          subst ehv
          subst erv2
          go_upto_region 18 with fail
          rw [← hXu, ← hwg]
          subst hwb
          clear hso hF1 hF2 hul hIu hIr hrl hrB hrb hrc eui hwg hXu hbu hsog hFb hsob hFcb hbub hne hui q0 q1 hsz
          go_cut [] (fun wx => Hd (LocS wx Xu (.slice oa P oc) (.slice (some ⟨rg, 0, none⟩) P rc) ⟨s.heap, s.res.set I (s.res[I]'HIR.out ++ [0])⟩) ∧ Hd (Fr (fun k => wc.heap.size ≤ k) wc wx))
          case first =>
            clear Ls9 LF9 HF9 HSO HBU HFCB HRV HIU HEUI HRL HNE HRT HH LT
            obtain ⟨i3, hi3, hz3, hs3, hb3⟩ := info_parts (P := Try.prog) (e := 3) (z := .int .i64 0) (size := 1) (bytes := 8) (by kernel_rfl)
            go_region_law (
              refine step_append_lies _ rfl (.tmp 140) (.tmp 141) 22 rfl (wc.heap.size + 2) 3 i3 (.int .i64 0) 1 8 under22i hi3 hz3 hs3 hb3 rfl (by omega) (.slice ua R uc) R _ (by simp [Act.eval, Act.put]) HUI.out ⟨wg.heap.size, 0, none⟩ 1 1 [vI 0] (by simp [Act.eval, Act.put]) rfl hnews (by intro u hu; simp at hu; subst hu; rfl) (by omega) (by unfold maxLen; omega) (by omega) hbase (wg.heap.size + 1) hws ?_
              intro g6 cap6 w6 hown6 hgrow6 hat6 hlt6
              obtain ⟨y0, y1, y2, y3, y4⟩ := HAFT.out w6 g6 cap6 hgrow6 hown6
              have Y3 : Hd _ := y3
              have Y4 : Hd _ := y4
              clear y3 y4)
            all_goals
              go_wp2_with fail
              go_meet
              exact ⟨Y3.out, Y4.out⟩
          case rest =>
            obtain ⟨Lu, HFU⟩ := hcut
            have Ls2 : Hd (LocS wc Xs (.slice ha1 P ha2) (.slice ra1 P ra2) s) := Ls9.out.up (Nat.le_refl _) HFU.out
            have LF2 : Hd (wc.heap[XF]? = some (fBox P R)) := (HFU.out.block XF (heap_lt LF9.out) (by have := heap_lt LF9.out; omega)).trans LF9.out
            have HF2 : Hd (Fr (fun _ => False) w wc) := HF9.out.then HFU.out (fun j hj e => by have := HF9.out.size; omega)
            have HMR := PS.more HRT.out HIR.out
            obtain ⟨uS, huS⟩ : ∃ uS : PS, uS = ⟨s.heap, s.res.set I (s.res[I]'HIR.out ++ [0])⟩ := ⟨_, rfl⟩
            rw [← huS] at HMR Lu
            have HMU : Hd (s.pair uS = false ∧ s.above uS = false ∧ uS.right P R = false) := HMR
            have HFit : Hd uS.Fits := by
              unfold Hd; rw [huS]
              refine ⟨by have := HRT.out.hl; simp; omega, by have := HRT.out.rl; simp; omega, fun l hl => ?_⟩
              rcases List.mem_or_eq_of_mem_set hl with h1 | h1
              · have := (HRT.out.ro l h1).1; omega
              · rw [h1]; have h9 := HRL.out; simp only [List.length_append, List.length_singleton]; have h8 : (s.res[I]'HIR.out).length = R := h9; omega
            clear HMR huS HFU HF9 LF9 Ls9 HSO HBU HFCB HRV HIU HUI HEUI HRL hnews hws hbase x1 x1b x2 x2b HAFT ne1 ne2 ne3 ne4 HNE
            have q0 := Ls2.out.x
            have q1 := Ls2.out.y
            go_wp2_with fail
            refine (show Calls Try.prog 13 #[.agg #[.slice ha1 P ha2, .slice ra1 P ra2]] wc _ from copySummary_any _ s wc Ls2.out.sa (HRT.out.fits hP8 hR4) (by have := HRT.out.rl; omega)).mono ?_
            rintro e wv ⟨hv, rv, us2, rfl, hso, hF1⟩
            obtain ⟨⟨pa, pc, ehv⟩, qa, qc, erv⟩ := SA.pair_form hso.sa
            rw [HRT.out.hl] at ehv
            rw [HRT.out.rl] at erv
            subst ehv
            subst erv
            have hcq : P ≤ qc := by
              rcases hso.lo.row.2 with ⟨e1, -⟩ | ⟨g', cap, cur, e1, k1, k2, k3, -⟩
              · injection e1 with _ e2 _; omega
              · injection e1 with _ e2 e3; omega
            obtain ⟨Qm, hQm⟩ : ∃ Q, Q = P - 1 := ⟨_, rfl⟩
            obtain ⟨Xv, hXv⟩ : ∃ X, X = wv.heap.size := ⟨_, rfl⟩
            obtain ⟨wx2, hwx⟩ : ∃ W, W = wv.alloc (.cells #[.slice pa P pc, .slice qa P qc] 31) := ⟨_, rfl⟩
            have hF2' : Fr (fun _ => False) wv wx2 := by rw [hwx]; exact Fr.alloc (Fr.refl _ _) _
            have hbv : wx2.heap[Xv]? = some (.cells #[.slice pa P pc, .slice qa P qc] 31) := by rw [hwx, hXv]; exact heap_new _ _
            obtain ⟨wk, hwk⟩ : ∃ W, W = wx2.setCell ⟨Xv, 1, none⟩ (.slice qa Qm qc) := ⟨_, rfl⟩
            have fk : Fr (fun k => Xv ≤ k) wv wk := by rw [hwk]; exact (hF2'.mono (fun _ _ e => e.elim)).then (setCell_fr wx2 Xv 1 _) (fun j _ e => by omega)
            have hbk : wk.heap[Xv]? = some (.cells #[.slice pa P pc, .slice qa Qm qc] 31) := by rw [hwk]; exact set_of hbv 1 _
            have hsk : SA wk (.agg #[.slice pa P pc, .slice qa P qc]) s := ((hso.sa.q (Q := fun k => k < Xv) (fun k hk => by omega)).fr fk (fun k hk => by omega)).sa
            have Lv : Hd (LocS wk Xv (.slice pa P pc) (.slice qa Qm qc) ⟨s.heap, s.res.take Qm⟩) := by
              refine ⟨hbk, ?_⟩
              obtain ⟨hv, rv, e, h1, h2⟩ := hsk
              injection e with e
              have ea : .slice pa P pc = hv := by have := congrArg (fun a => a[0]?) e; simpa using this
              have eb : .slice qa P qc = rv := by have := congrArg (fun a => a[1]?) e; simpa using this
              exact ⟨_, _, rfl, by rw [ea]; exact h1, LA.cut (by rw [eb]; exact h2) Qm (by omega) qc⟩
            have Ls3 : Hd (LocS wk Xs (.slice ha1 P ha2) (.slice ra1 P ra2) s) := (Ls2.out.keep hF1).up (by omega) fk
            have Lu3 : Hd (LocS wk Xu (.slice oa P oc) (.slice (some ⟨rg, 0, none⟩) P rc) uS) := (Lu.out.keep hF1).up (by omega) fk
            have LF3 : Hd (wk.heap[XF]? = some (fBox P R)) := by have h9 := keepF LF2.out hF1; exact (fk.block XF (heap_lt h9) (by have := heap_lt h9; omega)).trans h9
            have HF3 : Hd (Fr (fun _ => False) w wk) := (HF2.out.trans hF1).then fk (fun j hj e => by have h9 := (HF2.out.trans hF1).size; omega)
            have HLS := PS.less HRT.out (by omega)
            rw [← hQm] at HLS
            obtain ⟨vS, hvS⟩ : ∃ vS : PS, vS = ⟨s.heap, s.res.take Qm⟩ := ⟨_, rfl⟩
            rw [← hvS] at HLS Lv
            have HMV : Hd (vS.pair s = false ∧ vS.above s = false ∧ vS.right P R = false) := HLS
            have HFiv : Hd (vS.Fits ∧ vS.res.length ≤ 8) := by
              unfold Hd; rw [hvS]
              refine ⟨⟨by have := HRT.out.hl; simp; omega, by have := HRT.out.rl; simp; omega, fun l hl => by have := (HRT.out.ro l (List.mem_of_mem_take hl)).1; omega⟩, by have := HRT.out.rl; simp; omega⟩
            have x1 : wx2.cell? ⟨Xv, 1, none⟩ = some (.slice qa P qc) := by rw [cell_of hbv]; rfl
            have x2 := frozen_of hbv 1
            have f0 : wx2.cell? ⟨XF, 0, none⟩ = some (vI P) := by have h9 := keepF (keepF LF2.out hF1) hF2'; rw [cell_of h9]; rfl
            have hp1 : wrap64 ((P : Int) - 1) = (Qm : Int) := by rw [w64 (by omega) (by omega)]; omega
            have hp2 : (0 : Int) ≤ (Qm : Int) := by omega
            have hp3 : (Qm : Int) ≤ (qc : Int) := by omega
            go_upto_region 20 with fail
            rw [← hXv, ← hwx]
            have HQm : Hd (Qm = P - 1) := hQm
            clear hXv hwx hQm
            go_upto_region 21 with fail
            rw [← HQm.out, ← hwk]
            clear hso hF1 hF2' hbv hwk fk hbk hsk HLS hvS x1 x2 f0 hp1 hp2 hp3 hcq Ls2 Lu LF2 HF2 q0 q1
            have q0 := Ls3.out.x
            have q1 := Ls3.out.y
            have q2 := Lu3.out.x
            have q3 := Lu3.out.y
            go_wp2_with fail
            refine (show Calls Try.prog 12 #[.agg #[.slice ha1 P ha2, .slice ra1 P ra2], .agg #[.slice oa P oc, .slice (some ⟨rg, 0, none⟩) P rc]] wk _ from meet_no _ _ s uS wk Ls3.out.sa Lu3.out.sa (HRT.out.fits hP8 hR4) HFit.out HMU.out.1).mono ?_
            rintro e wl ⟨rfl, hF1⟩
            have Ls4 : Hd (LocS wl Xs (.slice ha1 P ha2) (.slice ra1 P ra2) s) := Ls3.out.keep hF1
            have Lu4 : Hd (LocS wl Xu (.slice oa P oc) (.slice (some ⟨rg, 0, none⟩) P rc) uS) := Lu3.out.keep hF1
            have Lv4 : Hd (LocS wl Xv (.slice pa P pc) (.slice qa Qm qc) vS) := Lv.out.keep hF1
            have LF4 : Hd (wl.heap[XF]? = some (fBox P R)) := keepF LF3.out hF1
            have HF4 : Hd (Fr (fun _ => False) w wl) := HF3.out.trans hF1
            clear q0 q1 q2 q3 hF1 Ls3 Lu3 Lv LF3 HF3
            have q0 := Ls4.out.x
            have q1 := Ls4.out.y
            have q2 := Lv4.out.x
            have q3 := Lv4.out.y
            go_wp2_with fail
            refine (show Calls Try.prog 12 #[.agg #[.slice pa P pc, .slice qa Qm qc], .agg #[.slice ha1 P ha2, .slice ra1 P ra2]] wl _ from meet_no _ _ vS s wl Lv4.out.sa Ls4.out.sa HFiv.out.1 (HRT.out.fits hP8 hR4) HMV.out.1).mono ?_
            rintro e wm ⟨rfl, hF1⟩
            have Ls5 : Hd (LocS wm Xs (.slice ha1 P ha2) (.slice ra1 P ra2) s) := Ls4.out.keep hF1
            have Lu5 : Hd (LocS wm Xu (.slice oa P oc) (.slice (some ⟨rg, 0, none⟩) P rc) uS) := Lu4.out.keep hF1
            have Lv5 : Hd (LocS wm Xv (.slice pa P pc) (.slice qa Qm qc) vS) := Lv4.out.keep hF1
            have LF5 : Hd (wm.heap[XF]? = some (fBox P R)) := keepF LF4.out hF1
            have HF5 : Hd (Fr (fun _ => False) w wm) := HF4.out.trans hF1
            clear q0 q1 q2 q3 hF1 Ls4 Lu4 Lv4 LF4 HF4
            have q0 := Ls5.out.x
            have q1 := Ls5.out.y
            have q2 := Lu5.out.x
            have q3 := Lu5.out.y
            go_wp2_with fail
            refine (show Calls Try.prog 9 #[.agg #[.slice ha1 P ha2, .slice ra1 P ra2], .agg #[.slice oa P oc, .slice (some ⟨rg, 0, none⟩) P rc]] wm _ from above_any _ _ s uS wm Ls5.out.sa Lu5.out.sa (HRT.out.fits hP8 hR4) HFit.out).mono ?_
            rintro e wn ⟨rfl, hF1⟩
            rw [HMU.out.2.1]
            have Ls6 : Hd (LocS wn Xs (.slice ha1 P ha2) (.slice ra1 P ra2) s) := Ls5.out.keep hF1
            have Lu6 : Hd (LocS wn Xu (.slice oa P oc) (.slice (some ⟨rg, 0, none⟩) P rc) uS) := Lu5.out.keep hF1
            have Lv6 : Hd (LocS wn Xv (.slice pa P pc) (.slice qa Qm qc) vS) := Lv5.out.keep hF1
            have LF6 : Hd (wn.heap[XF]? = some (fBox P R)) := keepF LF5.out hF1
            have HF6 : Hd (Fr (fun _ => False) w wn) := HF5.out.trans hF1
            clear q0 q1 q2 q3 hF1 Ls5 Lu5 Lv5 LF5 HF5
            have q0 := Ls6.out.x
            have q1 := Ls6.out.y
            have q2 := Lv6.out.x
            have q3 := Lv6.out.y
            go_wp2_with fail
            refine (show Calls Try.prog 9 #[.agg #[.slice pa P pc, .slice qa Qm qc], .agg #[.slice ha1 P ha2, .slice ra1 P ra2]] wn _ from above_any _ _ vS s wn Lv6.out.sa Ls6.out.sa HFiv.out.1 (HRT.out.fits hP8 hR4)).mono ?_
            rintro e wo ⟨rfl, hF1⟩
            rw [HMV.out.2.1]
            have Lu7 : Hd (LocS wo Xu (.slice oa P oc) (.slice (some ⟨rg, 0, none⟩) P rc) uS) := Lu6.out.keep hF1
            have Lv7 : Hd (LocS wo Xv (.slice pa P pc) (.slice qa Qm qc) vS) := Lv6.out.keep hF1
            have LFa : Hd (wo.heap[XF]? = some (fBox P R)) := keepF LF6.out hF1
            have HFa : Hd (Fr (fun _ => False) w wo) := HF6.out.trans hF1
            clear q0 q1 q2 q3 hF1 Ls6 Lu6 Lv6 LF6 HF6
            have q2 := Lu7.out.x
            have q3 := Lu7.out.y
            have f0 : wo.cell? ⟨XF, 0, none⟩ = some (vI P) := by rw [cell_of LFa.out]; rfl
            have f1 : wo.cell? ⟨XF, 1, none⟩ = some (vI R) := by rw [cell_of LFa.out]; rfl
            have f2 : wo.cell? ⟨XF, 2, none⟩ = some (vI 0) := by rw [cell_of LFa.out]; rfl
            have f3 : wo.cell? ⟨XF, 3, none⟩ = some (.slice none 0 0) := by rw [cell_of LFa.out]; rfl
            go_wp2_with fail
            refine (show Calls Try.prog 11 #[.agg #[vI P, vI R, vI 0, .slice none 0 0], .agg #[.slice oa P oc, .slice (some ⟨rg, 0, none⟩) P rc]] wo _ from check_any P R 0 none 0 0 _ uS wo Lu7.out.sa HFit.out).mono ?_
            rintro e wp ⟨rfl, hF1⟩
            rw [show checkE P R uS = 90 by rw [checkE_of hP8 hR4, HMU.out.2.2]; rfl]
            have Lv8 : Hd (LocS wp Xv (.slice pa P pc) (.slice qa Qm qc) vS) := Lv7.out.keep hF1
            have LFb : Hd (wp.heap[XF]? = some (fBox P R)) := keepF LFa.out hF1
            have HFb : Hd (Fr (fun _ => False) w wp) := HFa.out.trans hF1
            clear q2 q3 f0 f1 f2 f3 hF1 Lu7 Lv7 LFa HFa
            have q2 := Lv8.out.x
            have q3 := Lv8.out.y
            have f0 : wp.cell? ⟨XF, 0, none⟩ = some (vI P) := by rw [cell_of LFb.out]; rfl
            have f1 : wp.cell? ⟨XF, 1, none⟩ = some (vI R) := by rw [cell_of LFb.out]; rfl
            have f2 : wp.cell? ⟨XF, 2, none⟩ = some (vI 0) := by rw [cell_of LFb.out]; rfl
            have f3 : wp.cell? ⟨XF, 3, none⟩ = some (.slice none 0 0) := by rw [cell_of LFb.out]; rfl
            go_wp2_with fail
            refine (show Calls Try.prog 11 #[.agg #[vI P, vI R, vI 0, .slice none 0 0], .agg #[.slice pa P pc, .slice qa Qm qc]] wp _ from check_any P R 0 none 0 0 _ vS wp Lv8.out.sa HFiv.out.1).mono ?_
            rintro e wz ⟨rfl, hF1⟩
            rw [show checkE P R vS = 90 by rw [checkE_of hP8 hR4, HMV.out.2.2]; rfl]
            have HFz : Hd (Fr (fun _ => False) w wz) := HFb.out.trans hF1
            clear q2 q3 f0 f1 f2 f3 hF1 Lv8 LFb HFb
            go_wp2_with fail
            go_ret
            exact ⟨rfl, HFz.out⟩
    · exact absurd hcs hJ0

end Go.Proofs.Ytfgkilpahomenaa
