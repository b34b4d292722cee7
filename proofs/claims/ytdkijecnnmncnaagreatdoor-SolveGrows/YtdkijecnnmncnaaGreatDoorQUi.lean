import Derived.Test.YtdkijecnnmncnaaGreatDoorQLlJ
namespace Go.Proofs.YtdkijecnnmncnaaGreatDoor
open Go.RowKit (wrap32 wrap64)
set_option linter.unusedVariables false
set_option linter.unusedSimpArgs false
set_option maxRecDepth 100000
set_option maxHeartbeats 4000000
theorem grown_refl (w : World) (o : Option Nat) : w.grownBy w o := ⟨rfl, rfl, rfl, Nat.le_refl _, fun _ _ _ => rfl⟩
theorem grows_any (G F : Int) (fv mv sv : Value) (fs : List PF) (ms : List PI) (ss : List PS) (w : World) (h1 : FA w fv fs) (h2 : CA w mv ms) (h3 : SsA w sv ss) (b1 : FineP fs) (b2 : FineC ms) (b3 : FineS ss) (hT : Tab w) (hR : RowsA w) :
 Calls Tryz.prog 4 #[.agg #[vI G, fv, vI F, mv, sv]] w fun e w' => e = .returned (.bool true) ∧ Fr (fun _ => False) w w' := by
 obtain ⟨wa, hwa⟩ : ∃ wa, wa = (w.alloc (.cells #[vI G, fv, vI F, mv, sv] 43)).alloc (.cells #[vI G, fv] 24) := ⟨_, rfl⟩
 have HWA : Hd (wa = (w.alloc (.cells #[vI G, fv, vI F, mv, sv] 43)).alloc (.cells #[vI G, fv] 24)) := hwa
 obtain ⟨H, hH⟩ : ∃ H, H = w.heap.size := ⟨_, rfl⟩
 have HH : Hd (H = w.heap.size) := hH
 have hb1 : wa.heap[H + 1]? = some (.cells #[vI G, fv] 24) := by rw [hwa, hH]; exact heap_new1 w _ _
 have hFA : Fr (fun _ => False) w wa := by rw [hwa]; exact Fr.alloc (Fr.alloc (Fr.refl _ w) _) _
 have HFA : Hd (Fr (fun _ => False) w wa) := hFA
 have H1 : Hd (FA w fv fs) := h1
 have H2 : Hd (CA w mv ms) := h2
 have H3 : Hd (SsA w sv ss) := h3
 have B1 : Hd (FineP fs) := b1
 have B2 : Hd (FineC ms) := b2
 have B3 : Hd (FineS ss) := b3
 have HT : Hd (Tab w) := hT
 have HR : Hd (RowsA w) := hR
 obtain ⟨fa, fc, efv, -⟩ := id h1
 obtain ⟨ma, mc, emv, -⟩ := id h2
 obtain ⟨sa, sc, esv, -⟩ := id h3
 subst efv emv esv
 have hfl := b1.1
 have HP : Hd (∀ wx, Fr (fun _ => False) wa wx → wx.cell? ⟨H + 1, 0, none⟩ = some (vI G) ∧ wx.cell? ⟨H + 1, 1, none⟩ = some (.slice fa fs.length fc)) := fun wx hx => by
  have hb := (hx.block (H + 1) (heap_lt0 hb1) (fun e => e)).trans hb1
  exact ⟨by rw [cell_of0 hb]; rfl, by rw [cell_of0 hb]; rfl⟩
 obtain ⟨c0, c1⟩ := HP.out wa (Fr.refl _ wa)
 clear hwa hH hb1 hFA h1 h2 h3 b1 b2 b3 hT hR
 go_enter Tryz.func4, Tryz.ntmps4
 go_upto_region 5 with fail
 rw [← HWA.out, ← HH.out]
 clear HWA
 go_wp2_with fail
 refine (show Calls Tryz.prog 8 #[.agg #[vI G, .slice fa fs.length fc]] wa _ from long_any G _ fs wa (H1.out.stay HFA.out) B1.out).mono ?_
 rintro e w1 ⟨b, rfl, hF1, hb1⟩
 have HF1 : Hd (Fr (fun _ => False) wa w1) := hF1
 cases b with
 | true =>
   clear hF1 hb1 c0 c1
   go_wp2_with fail
   go_ret
   exact ⟨rfl, HFA.out.trans HF1.out⟩
 | false =>
 have HSM : Hd (∀ f ∈ fs, SmC 2147483647 f.code) := (hb1 rfl).2
 clear hF1 hb1 c0 c1
 go_wp2_with fail
 refine (show Calls Tryz.prog 9 #[.slice sa ss.length sc] w1 _ from longSums_any _ ss w1 (H3.out.stay (HFA.out.trans HF1.out)) B3.out).mono ?_
 rintro e w2 ⟨b, rfl, hF2, -⟩
 have HF2 : Hd (Fr (fun _ => False) wa w2) := HF1.out.trans hF2
 cases b with
 | true =>
   clear hF2 HF1
   go_wp2_with fail
   go_ret
   exact ⟨rfl, HFA.out.trans HF2.out⟩
 | false =>
 clear hF2 HF1
 have HF3 : Hd (Fr (fun _ => False) wa (w2.alloc (.cells #[vI 0, vI 0, vI 0, .slice ma ms.length mc] 45))) := HF2.out.alloc _
 have HC3 : Hd (Calls Tryz.prog 8 #[.agg #[vI 0, .slice (some ⟨w2.heap.size, 0, none⟩) 1 1]] (w2.alloc (.cells #[vI 0, vI 0, vI 0, .slice ma ms.length mc] 45)) fun e w' => ∃ b, e = .returned (.bool b) ∧ Fr (fun _ => False) (w2.alloc (.cells #[vI 0, vI 0, vI 0, .slice ma ms.length mc] 45)) w' ∧ (b = false → ms.length ≤ 2147483647)) := by
  refine (long_any 0 _ [⟨0, 0, 0, ms⟩] _ (one_fa (heap_new0 w2 _) (H2.out.stay (HFA.out.trans HF3.out))) ⟨by simp, fun f hf => by obtain rfl := List.mem_singleton.1 hf; exact B2.out⟩).mono ?_
  rintro e w' ⟨b, he, hf, hb⟩
  exact ⟨b, he, hf, fun e => ((hb e).2 _ (List.mem_singleton.2 rfl)).1⟩
 go_wp2_with fail
 refine HC3.out.mono ?_
 rintro e w3 ⟨b, rfl, hF3, hb3⟩
 have HF4 : Hd (Fr (fun _ => False) wa w3) := HF3.out.trans hF3
 cases b with
 | true =>
   clear hF3 hb3 HF2 HF3 HC3
   go_wp2_with fail
   go_ret
   exact ⟨rfl, HFA.out.trans HF4.out⟩
 | false =>
 have HML : Hd (ms.length ≤ 2147483647) := hb3 rfl
 clear hF3 hb3 HF2 HF3 HC3
 have HFw : Hd (Fr (fun _ => False) w w3) := HFA.out.trans HF4.out
 go_wp2_with fail
 refine (lives_any w3 (HT.out.stay HFw.out) (HR.out.stay HFw.out (tab_lt HT.out))).mono ?_
 rintro e w4 ⟨rfl, hF4⟩
 have HF5 : Hd (Fr (fun _ => False) wa w4) := HF4.out.trans hF4
 clear hF4 HF4 HFw
 obtain ⟨c0, c1⟩ := HP.out w4 HF5.out
 go_wp2_with fail
 refine (show Calls Tryz.prog 11 #[.agg #[vI G, .slice fa fs.length fc], .slice sa ss.length sc] w4 _ from rights_any G _ _ fs ss w4 (H1.out.stay (HFA.out.trans HF5.out)) (H3.out.stay (HFA.out.trans HF5.out)) B1.out B3.out).mono ?_
 rintro e w5 ⟨b, rfl, hF5, hrg⟩
 have HF6 : Hd (Fr (fun _ => False) wa w5) := HF5.out.trans hF5
 clear c0 c1
 obtain ⟨c0, c1⟩ := HP.out w5 HF6.out
 cases b with
 | false =>
   clear hF5 hrg HF5
   go_wp2_with fail
   go_ret
   exact ⟨rfl, HFA.out.trans HF6.out⟩
 | true =>
 have HCK : Hd (checkP G fs = 0) := (hrg rfl).1
 have HRG : Hd (RgtP fs ss) := (hrg rfl).2
 clear hF5 hrg HF5
 by_cases hF0 : F < 0
 ·have d0 : decide (F < 0) = true := by simpa using hF0
  go_wp2_with fail
  go_ret
  exact ⟨rfl, HFA.out.trans HF6.out⟩
 have d0 : decide (F < 0) = false := by simpa using hF0
 by_cases hFl : F ≥ fs.length
 ·have d1 : decide (F ≥ (fs.length : Int)) = true := by simpa using hFl
  have d2 : decide ((fs.length : Int) ≤ F) = true := by simpa using hFl
  go_wp2_with fail
  go_ret
  exact ⟨rfl, HFA.out.trans HF6.out⟩
 have d1 : decide (F ≥ (fs.length : Int)) = false := by simpa using hFl
 have d2 : decide ((fs.length : Int) ≤ F) = false := by simpa using hFl
 obtain ⟨i, rfl⟩ : ∃ i : Nat, F = i := ⟨F.toNat, by omega⟩
 have hi : i < fs.length := by omega
 have d3 : decide (fs.length ≤ i) = false := by simp; omega
 go_wp2_with fail
 refine (show Calls Tryz.prog 15 #[.agg #[vI G, .slice fa fs.length fc]] w5 _ from copyProgramP_any G _ fs w5 (H1.out.stay (HFA.out.trans HF6.out)) B1.out).mono ?_
 rintro e w6 ⟨qv, L, rfl, hO6, hP6, hL6, hF7⟩
 have hLl : L.length = fs.length := by rw [← hL6, List.length_map]
 have hiL : i < L.length := by omega
 obtain ⟨g, cap, eqv, hgB, hgl⟩ := World.ownsRow.form hO6.row (by omega)
 rw [hLl] at eqv
 subst eqv
 have hfi : L[i].1 = fs[i] := by simp only [← hL6, List.getElem_map]
 obtain ⟨kc, hkc⟩ := hO6.code L[i] (List.getElem_mem hiL)
 obtain ⟨a0, c0', ec0⟩ := own_slice kc.row
 have hcl : L[i].2.2.length = fs[i].code.length := by rw [← hfi, ← hkc, List.length_map]
 have HX8 : Hd ((w6.alloc (.cells #[vI G, .slice (some ⟨g, 0, none⟩) fs.length cap] 24)).heap[w6.heap.size]? = some (.cells #[vI G, .slice (some ⟨g, 0, none⟩) fs.length cap] 24)) := heap_new0 w6 _
 have hFq : Fr (fun _ => False) w6 (w6.alloc (.cells #[vI G, .slice (some ⟨g, 0, none⟩) fs.length cap] 24)) := Fr.alloc (Fr.refl _ w6) _
 have HFq : Hd (Fr (fun _ => False) wa (w6.alloc (.cells #[vI G, .slice (some ⟨g, 0, none⟩) fs.length cap] 24))) := (HF6.out.trans hF7).trans hFq
 have HOq : Hd (FO (w6.alloc (.cells #[vI G, .slice (some ⟨g, 0, none⟩) fs.length cap] 24)) (w5.heap.size + 2) (.slice (some ⟨g, 0, none⟩) fs.length cap) L) := hO6.stay hFq
 have HPq : Hd (Pw L) := hP6
 have HLq : Hd (L.map (·.1) = fs) := hL6
 have HW5 : Hd (wa.heap.size ≤ w5.heap.size) := HF6.out.size
 have HGX : Hd (g < w6.heap.size ∧ w5.heap.size + 2 ≤ g) := ⟨hgl, hgB⟩
 clear hO6 hP6 hL6 hF7 hFq hgB hgl kc hkc c0 c1 HF6
 go_upto_region 11 with fail
 obtain ⟨X, hX⟩ : ∃ X, X = w6.heap.size := ⟨_, rfl⟩
 rw [← hX] at HX8 HGX ⊢
 clear hX
 generalize w6.alloc (.cells #[vI G, .slice (some ⟨g, 0, none⟩) fs.length cap] 24) = wq at *
 have x1 : wq.cell? ⟨X, 1, none⟩ = some (.slice (some ⟨g, 0, none⟩) fs.length cap) := by rw [cell_of0 HX8.out]; rfl
 have y1 : wq.cell? ⟨g, i * 4 + 3, none⟩ = some (.slice a0 L[i].2.2.length c0') := by
  obtain ⟨g', cap', e', -, hc⟩ := own_cell HOq.out.row (j := i * 4 + 3) (u := .slice a0 L[i].2.2.length c0') (by rw [flat_get rowF 4 (fun _ => rfl) L i 3 hiL (by omega)]; show some L[i].2.1 = _; rw [ec0])
  obtain rfl : g = g' := Option.some.inj (congrArg Value.ownBlock e')
  exact hc
 have hFqw := HFA.out.trans HFq.out
 have HCC : Hd (∀ wx, Fr (fun _ => False) wq wx → Calls Tryz.prog 16 #[.slice ma ms.length mc] wx fun e w' => ∃ v' M, e = .returned v' ∧ CO w' wx.heap.size v' M ∧ M.map (·.1) = ms ∧ Fr (fun _ => False) wx w') := fun wx hx => copyCode_any _ ms wx (H2.out.stay (hFqw.trans hx)) B2.out
 have lX := heap_lt0 HX8.out
 have lg : g < wq.heap.size := by have := HGX.out; omega
 have hi0 : (0 : Int) ≤ i := by omega
 have hi1 : (i : Int) < fs.length := by omega
 obtain ⟨i7, hi7, hz7, hs7, hb7⟩ := info_parts (P := Tryz.prog) (e := 79) (z := .agg #[vI 0, vI 0, vI 0, vI 0, vI 0, .slice none 0 0, .slice none 0 0]) (size := 7) (bytes := 88) (by kernel_rfl)
 -- what is left behind the append
 have HEND : Hd (∀ w8 w9 mv' M x n, Fr (fun _ => False) wq w8 → CO w8 wq.heap.size mv' M → M.map (·.1) = ms → w8.grownBy w9 L[i].2.1.ownBlock → w9.ownsRow (w5.heap.size + 2) 79 7 x n ((L[i].2.2 ++ M).flatMap rowI) → n = (L[i].2.2 ++ M).length → GrC wa g fs.length cap i X (.cells #[vI G, .slice (some ⟨g, 0, none⟩) fs.length cap] 24) fs fs[i] ms x w9 ∧ w9.cell? ⟨X, 1, none⟩ = some (.slice (some ⟨g, 0, none⟩) fs.length cap) ∧ w9.cell? ⟨g, i * 4 + 3, none⟩ = some (.slice a0 L[i].2.2.length c0')) := fun w8 w9 mv' M x n h8 hM hMl hgr hown hn => by
  have fg := grown_frL hgr
  have hO8 := HOq.out.stay h8
  have hli := hO8.code L[i] (List.getElem_mem hiL)
  have hX9 : w9.heap[X]? = some (.cells #[vI G, .slice (some ⟨g, 0, none⟩) fs.length cap] 24) := (fg.block X (Nat.lt_of_lt_of_le lX h8.size) (fun e => by
   rcases hli.1.row.2 with ⟨e2, -⟩ | ⟨g', cap', cur, e2, -, e3, -⟩
   ·rw [e2] at e; cases e
   ·rw [e2] at e
    have e : g' = X := Option.some.inj e
    subst e
    have h9 := keepF HX8.out h8
    rw [e3] at h9
    injection (Option.some.inj h9) with _ e4
    exact absurd e4 (by decide))).trans (keepF HX8.out h8)
  have hg9 : ∀ o, w9.cell? ⟨g, o, none⟩ = wq.cell? ⟨g, o, none⟩ := fun o => (fg.cell (Nat.lt_of_lt_of_le lg h8.size) (fun e => own_apart hO8.row hli.1.row (by decide) g e rfl)).trans (h8.cell lg (fun e => e))
  have hz9 : w9.frozen? ⟨g, i * 4 + 3, none⟩ = false := by
   rcases hO8.row.2 with ⟨e2, -⟩ | ⟨g', cap', cur, e2, -, e3, -⟩
   ·cases e2
   ·obtain rfl : g = g' := Option.some.inj (congrArg Value.ownBlock e2)
    rw [fg.frozen (Nat.lt_of_lt_of_le lg h8.size) (fun e => own_apart hO8.row hli.1.row (by decide) g e rfl)]
    exact frozen_of e3 _
  have hfa := fo_app (i := i) (cap := cap) (g := g) (by rw [hLl]; exact hO8) HPq.out hiL (hM.mono (by have := HGX.out; omega)) hgr hown hn
  rw [hLl, HLq.out, hMl, hfi] at hfa
  obtain ⟨xa, xc, ex⟩ := own_slice hown
  refine ⟨⟨⟨_, _, _, ex⟩, hfa, (HFq.out.trans h8).then fg (fun j hj e => ?_), hX9, ⟨_, (hg9 _).trans y1⟩, hz9, Nat.lt_of_lt_of_le lg (Nat.le_trans h8.size fg.size)⟩, by rw [cell_of0 hX9]; rfl, (hg9 _).trans y1⟩
  have := (World.ownsRow.lt hli.1.row j e).1
  have := HW5.out
  omega
 have hnl : L[i].2.2.length ≤ 2147483647 := by rw [hcl]; exact (HSM.out _ (List.getElem_mem hi)).1
 have HOR : Hd (∀ wx, Fr (fun _ => False) wq wx → wx.ownsRow (w5.heap.size + 2) 79 7 (.slice a0 L[i].2.2.length c0') L[i].2.2.length (L[i].2.2.flatMap rowI)) := fun wx hx => by
  have := ((HOq.out.stay hx).code L[i] (List.getElem_mem hiL)).1.row
  rw [ec0] at this
  exact this
 rw [ec0] at HEND
 have HQS : Hd (w5.heap.size + 2 ≤ wq.heap.size) := by have := HGX.out; unfold Hd; omega
 generalize L[i].2.2 = Lc at *
 obtain ⟨nc, hnc⟩ : ∃ nc, nc = Lc.length := ⟨_, rfl⟩
 rw [← hnc] at y1 HOR HEND hnl
 have HNC : Hd (nc = Lc.length) := hnc
 clear hnc hcl ec0 hFqw
 go_cut [9] (fun x9 wx => Hd (GrC wa g fs.length cap i X (.cells #[vI G, .slice (some ⟨g, 0, none⟩) fs.length cap] 24) fs fs[i] ms x9 wx))
 case first =>
  by_cases hms : ms = []
  ·have HMS : Hd (ms = []) := hms
   clear hms
   go_region_held3 (fun w' => w'.cell? ⟨X, 1, none⟩ = some (.slice (some ⟨g, 0, none⟩) fs.length cap) ∧ w'.cell? ⟨g, i * 4 + 3, none⟩ = some (.slice a0 nc c0')) (go_keep) ((
    first
     |(go_at_call 16
       refine (HCC.out wq.drew (Fr.drew (Fr.refl _ wq))).mono ?_
       rintro e w8 ⟨mv', M, rfl, hM, hMl, hF8⟩
       have hG8 : Fr (fun _ => False) wq w8 := (Fr.drew (Fr.refl _ wq)).trans hF8
       have HG8 : Hd (Fr (fun _ => False) wq w8) := hG8
       have hml : M = [] := by rw [HMS.out] at hMl; exact List.map_eq_nil_iff.1 hMl
       have HML8 : Hd (M.map (·.1) = ms) := hMl
       have HM8 : Hd (CO w8 wq.heap.size mv' M) := hM
       obtain ⟨am, cm, emv, hac⟩ : ∃ am cm, mv' = .slice am 0 cm ∧ (am = none → cm = 0) := by
        rw [hml] at hM
        rcases hM.row.2 with ⟨e2, -⟩ | ⟨g', cap', cur, e2, -⟩
        ·exact ⟨none, 0, e2, fun _ => rfl⟩
        ·exact ⟨_, _, e2, fun e => by cases e⟩
       subst emv
       have HAC : Hd (am = none → cm = 0) := hac
       have HME : Hd (M = []) := hml
       have HO8 : Hd (w8.ownsRow (w5.heap.size + 2) 79 7 (.slice a0 nc c0') nc (Lc.flatMap rowI)) := HOR.out w8 hG8
       have x1 := (hG8.cell lX (fun e => e)).trans x1
       have y1 := (hG8.cell lg (fun e => e)).trans y1
       clear hM hMl hF8 hG8 hml hac)
     |(refine step_append_none0 rfl (.tmp 66) (.tmp 68) 41 rfl (w5.heap.size + 2) 79 i7 7 (by kernel_rfl) hi7 (.slice a0 nc c0') nc _ (by simp [Act.eval, Act.put]) HO8.out am cm (by simp [Act.eval, Act.put]) HAC.out ?_
       obtain ⟨o1, o2, o3⟩ := HEND.out w8 w8 _ M _ _ HG8.out HM8.out HML8.out (grown_refl _ _) (by rw [HME.out, List.append_nil]; exact HO8.out) (by rw [HME.out, List.append_nil]; exact HNC.out)
       have HO1 : Hd (GrC wa g fs.length cap i X (.cells #[vI G, .slice (some ⟨g, 0, none⟩) fs.length cap] 24) fs fs[i] ms (.slice a0 nc c0') w8) := o1
       clear o1)))
   all_goals
    go_wp2_with fail
    go_meet
    exact HO1.out
  ·have HMS : Hd (ms ≠ []) := hms
   clear hms
   go_region_held3 (fun w' => w'.cell? ⟨X, 1, none⟩ = some (.slice (some ⟨g, 0, none⟩) fs.length cap) ∧ w'.cell? ⟨g, i * 4 + 3, none⟩ = some (.slice a0 nc c0')) (go_keep) ((
    first
     |(go_at_call 16
       refine (HCC.out wq.drew (Fr.drew (Fr.refl _ wq))).mono ?_
       rintro e w8 ⟨mv', M, rfl, hM, hMl, hF8⟩
       have hG8 : Fr (fun _ => False) wq w8 := (Fr.drew (Fr.refl _ wq)).trans hF8
       have HG8 : Hd (Fr (fun _ => False) wq w8) := hG8
       have hml : M.length = ms.length := by rw [← hMl, List.length_map]
       have hml0 : 0 < M.length := by rw [hml]; exact List.length_pos_iff.2 HMS.out
       obtain ⟨gm, cm, emv, hnw, hon⟩ := co_news hM hml0
       subst emv
       have HM8 : Hd (CO w8 wq.heap.size (.slice (some ⟨gm, 0, none⟩) M.length cm) M) := hM
       have HML8 : Hd (M.map (·.1) = ms) := hMl
       have HMN : Hd (M.length ≤ 2147483647 ∧ 0 < M.length) := ⟨by have := HML.out; omega, hml0⟩
       have HNW : Hd (∀ j u, (M.flatMap rowI)[j]? = some u → w8.cell? ((⟨gm, 0, none⟩ : Addr).add j) = some u) := hnw
       have HON : Hd (∀ u ∈ M.flatMap rowI, u.oneCell' = true) := hon
       have HFLL : Hd ((M.flatMap rowI).length = M.length * 7) := flat_len rowI 7 (fun _ => rfl) M
       have HO8 : Hd (w8.ownsRow (w5.heap.size + 2) 79 7 (.slice a0 nc c0') nc (Lc.flatMap rowI)) := HOR.out w8 hG8
       have HB8 : Hd (w5.heap.size + 2 ≤ w8.heap.size) := Nat.le_trans HQS.out hG8.size
       have x1 := (hG8.cell lX (fun e => e)).trans x1
       have y1 := (hG8.cell lg (fun e => e)).trans y1
       clear hM hMl hF8 hG8 hml hml0 hnw hon)
     |(refine step_append_lies _ rfl (.tmp 66) (.tmp 68) 41 rfl (w5.heap.size + 2) 79 i7 (.agg #[vI 0, vI 0, vI 0, vI 0, vI 0, .slice none 0 0, .slice none 0 0]) 7 88 (by kernel_rfl) hi7 hz7 hs7 hb7 rfl (by omega) (.slice a0 nc c0') nc _ (by simp [Act.eval, Act.put]) HO8.out ⟨gm, 0, none⟩ M.length cm (M.flatMap rowI) (by simp [Act.eval, Act.put]) HFLL.out HNW.out HON.out HMN.out.2 (by have := HMN.out; unfold maxLen; omega) (by have := HMN.out; omega) HB8.out w8.heap.size rfl ?_
       intro g6 cap6 w9 hown6 hgrow6 hat6 hlt6
       obtain ⟨o1, o2, o3⟩ := HEND.out w8 w9 _ M _ _ HG8.out HM8.out HML8.out hgrow6 (by rw [List.flatMap_append]; exact hown6) (by rw [List.length_append, HNC.out])
       have HO1 : Hd (GrC wa g fs.length cap i X (.cells #[vI G, .slice (some ⟨g, 0, none⟩) fs.length cap] 24) fs fs[i] ms (.slice (some ⟨g6, 0, none⟩) (nc + M.length) cap6) w9) := o1
       clear hown6 hgrow6 hat6 hlt6 o1)))
   all_goals
    go_wp2_with fail
    go_meet
    exact HO1.out
 case rest =>
  obtain ⟨⟨xa, xn, xc, rfl⟩, hfa, hfw, hX9, ⟨ux, hux⟩, hz9, hgl9⟩ := hcut
  have x1 : wc.cell? ⟨X, 1, none⟩ = some (.slice (some ⟨g, 0, none⟩) fs.length cap) := by rw [cell_of0 hX9]; rfl
  have hne : X ≠ g := by have := HGX.out; omega
  have hgw : wa.heap.size ≤ g := by have := HGX.out; have := HW5.out; omega
  have HFy : Hd (Fr (fun _ => False) wa (wc.setCell ⟨g, i * 4 + 3, none⟩ (.slice xa xn xc))) := hfw.setCell _ _ (Or.inr hgw)
  have HFAy : Hd (FA (wc.setCell ⟨g, i * 4 + 3, none⟩ (.slice xa xn xc)) (.slice (some ⟨g, 0, none⟩) fs.length cap) (grwP fs i fs[i] ms)) := hfa
  have HXy : Hd ((wc.setCell ⟨g, i * 4 + 3, none⟩ (.slice xa xn xc)).heap[X]? = some (.cells #[vI G, .slice (some ⟨g, 0, none⟩) fs.length cap] 24)) := ((setCell_fr wc g (i * 4 + 3) _).block X (heap_lt0 hX9) hne).trans hX9
  have hfine : FineP (grwP fs i fs[i] ms) := by
   refine ⟨by unfold grwP; rw [List.length_set]; exact B1.out.1, fun f hf => ?_⟩
   unfold grwP at hf
   rcases List.mem_or_eq_of_mem_set hf with hf | rfl
   ·exact B1.out.2 f hf
   ·have k1 := HSM.out _ (List.getElem_mem hi)
    have k2 := B1.out.2 _ (List.getElem_mem hi)
    refine ⟨by simp only [List.length_append]; have := k1.1; have := HML.out; omega, fun c hc => ?_⟩
    rcases List.mem_append.1 hc with hc | hc
    ·exact k2.2 c hc
    ·exact B2.out.2 c hc
  have HFI : Hd (FineP (grwP fs i fs[i] ms)) := hfine
  have hln : (grwP fs i fs[i] ms).length = fs.length := by unfold grwP; rw [List.length_set]
  have HRG2 : Hd (RgtP (grwP fs i fs[i] ms) ss) := by
   refine ⟨by rw [hln]; exact HRG.out.len, fun j hj hj' => ?_⟩
   have hj2 : j < fs.length := by omega
   have k := HRG.out.fit j hj hj2
   have e : (grwP fs i fs[i] ms)[j].P = fs[j].P ∧ (grwP fs i fs[i] ms)[j].R = fs[j].R := by
    simp only [grwP, List.getElem_set]
    split
    ·rename_i e; subst e; exact ⟨rfl, rfl⟩
    ·exact ⟨rfl, rfl⟩
   rw [e.1, e.2]
   exact k
  have HIX : Hd (∀ h : i < (grwP fs i fs[i] ms).length, (grwP fs i fs[i] ms)[i] = { fs[i] with code := fs[i].code ++ ms }) := fun h => by simp only [grwP, List.getElem_set_self]
  have HLN : Hd ((grwP fs i fs[i] ms).length = fs.length) := hln
  clear hfa hfw hX9 hfine hln HEND HOR HCC HOq HPq HLq HX8 HFq HNC hnl y1 HQS
  go_upto_region 13 with fail
  clear x1 hux hz9 hgl9 hne
  generalize wc.setCell ⟨g, i * 4 + 3, none⟩ (.slice xa xn xc) = wy at *
  have HQ : Hd (∀ wx, Fr (fun _ => False) wy wx → wx.cell? ⟨X, 0, none⟩ = some (vI G) ∧ wx.cell? ⟨X, 1, none⟩ = some (.slice (some ⟨g, 0, none⟩) fs.length cap)) := fun wx hx => by
   have hb := (hx.block X (heap_lt0 HXy.out) (fun e => e)).trans HXy.out
   exact ⟨by rw [cell_of0 hb]; rfl, by rw [cell_of0 hb]; rfl⟩
  obtain ⟨x0, x1⟩ := HQ.out wy (Fr.refl _ wy)
  have HFI2 : Hd (fs[i] = fs[i]) := rfl
  obtain ⟨f, hf⟩ : ∃ f, f = fs[i] := ⟨_, rfl⟩
  have HF : Hd (f = fs[i]) := hf
  rw [← hf] at HFAy HFI HRG2 HIX HLN
  clear hf HFI2
  go_wp2_with fail
  refine (show Calls Tryz.prog 8 #[.agg #[vI G, .slice (some ⟨g, 0, none⟩) fs.length cap]] wy _ from long_any G _ (grwP fs i f ms) wy HFAy.out HFI.out).mono ?_
  rintro e w10 ⟨b, rfl, hF10, -⟩
  have HF10 : Hd (Fr (fun _ => False) wy w10) := hF10
  clear x0 x1 hF10
  obtain ⟨x0, x1⟩ := HQ.out w10 HF10.out
  cases b with
  | true =>
    go_wp2_with fail
    go_ret
    exact ⟨rfl, HFA.out.trans (HFy.out.trans HF10.out)⟩
  | false =>
  go_wp2_with fail
  refine (show Calls Tryz.prog 17 #[.agg #[vI G, .slice (some ⟨g, 0, none⟩) fs.length cap]] w10 _ from rcheck_fa w10 G (grwP fs i f ms) _ (HFAy.out.stay HF10.out) HFI.out).mono ?_
  rintro e w11 ⟨rfl, hF11⟩
  have HF11 : Hd (Fr (fun _ => False) wy w11) := HF10.out.trans hF11
  clear x0 x1 hF11 HF10
  by_cases hck : ¬ checkP G (grwP fs i f ms) = 0
  ·have dk : (checkP G (grwP fs i f ms) != 0) = true := by simpa using hck
   go_wp2_with fail
   go_ret
   exact ⟨rfl, HFA.out.trans (HFy.out.trans HF11.out)⟩
  have hck : checkP G (grwP fs i f ms) = 0 := Classical.not_not.1 hck
  have HCK2 : Hd (checkP G (grwP fs i f ms) = 0) := hck
  rw [hck]
  clear hck
  have HE1 : Hd (EdgOk G fs i ss) := HRG.out.edg HCK.out hi
  have HE2 : Hd (EdgOk G (grwP fs i f ms) i ss) := HRG2.out.edg HCK2.out (by rw [HLN.out]; exact hi)
  have HLAW : Hd ((∀ l, l < locN f → escF ss f l = true → escF ss { f with code := f.code ++ ms } l = true) ∧ Lwr (solF ss { f with code := f.code ++ ms }) (solF ss f) ∧ locN f ≤ locN { f with code := f.code ++ ms } ∧ fitsX (solF ss { f with code := f.code ++ ms }) f.P f.R = true ∧ f.P ≤ 8 ∧ f.R ≤ 4 ∧ locN f ≤ 1048576) := by
   obtain ⟨k1, k2, k3, k4, k5⟩ := HE1.out.sol
   obtain ⟨m1, m2, m3, m4, m5⟩ := HE2.out.sol
   rw [HIX.out m1] at m2 m3 m4
   rw [← HF.out] at k2 k3 k4
   obtain ⟨q1, q2⟩ := solF_grow k2 k3 k4 k5 m2 m4 m5
   exact ⟨q1, q2, locN_grow f ms, solF_fits m2 m3 m4 m5, k2.P.2, k2.R.2, (edg_edr k2 k4 k5).n2⟩
  have HFw : Hd (Fr (fun _ => False) w w11) := HFA.out.trans (HFy.out.trans HF11.out)
  obtain ⟨c0, c1⟩ := HP.out w11 (HFy.out.trans HF11.out)
  go_wp2_with fail
  refine (show Calls Tryz.prog 13 #[.agg #[vI G, .slice fa fs.length fc], vI (i : Int), .slice sa ss.length sc] w11 _ from function_any G _ _ fs ss i w11 (H1.out.stay HFw.out) (H3.out.stay HFw.out) B1.out B3.out (HT.out.stay HFw.out) (HR.out.stay HFw.out (tab_lt HT.out))).mono ?_
  rintro e w12 ⟨hF12, ⟨hn, -⟩ | ⟨j, hj, ej, -, eb, p, r, g1, g2, gs, Y, Z, rfl, hb12, hrow, hsm, hp8, hr4, hsol⟩⟩
  ·exact absurd HE1.out hn
  obtain rfl : i = j := by omega
  rw [← HF.out] at hrow hsol ⊢
  have HFz : Hd (Fr (fun _ => False) w11 (w12.alloc (.cells #[.slice (some ⟨g1, 0, none⟩) p p, .slice (some ⟨g2, 0, none⟩) p p] 33))) := hF12.alloc _
  have HRO : Hd (Wg.Row (w12.alloc (.cells #[.slice (some ⟨g1, 0, none⟩) p p, .slice (some ⟨g2, 0, none⟩) p p] 33)) 4 eb (locN f) (fun l => .bool (escF ss f l))) := Row.stay hrow (Fr.alloc (Fr.refl _ w12) _)
  have HSA : Hd (IA (w12.alloc (.cells #[.slice (some ⟨g1, 0, none⟩) p p, .slice (some ⟨g2, 0, none⟩) p p] 33)) (.slice (some ⟨g1, 0, none⟩) p p) (solF ss f).H ∧ LA (w12.alloc (.cells #[.slice (some ⟨g1, 0, none⟩) p p, .slice (some ⟨g2, 0, none⟩) p p] 33)) (.slice (some ⟨g2, 0, none⟩) p p) (solF ss f).R) := by
   rw [hsol]
   exact ((hsm.keep (Fr.alloc (Fr.refl _ w12) _)).so hp8 hr4).sa
  have HX11 : Hd ((w12.alloc (.cells #[.slice (some ⟨g1, 0, none⟩) p p, .slice (some ⟨g2, 0, none⟩) p p] 33)).heap[w12.heap.size]? = some (.cells #[.slice (some ⟨g1, 0, none⟩) p p, .slice (some ⟨g2, 0, none⟩) p p] 33)) := heap_new0 w12 _
  clear hF12 ej hb12 hrow hsm hp8 hr4 hsol c0 c1
  go_upto_region 16 with fail
  obtain ⟨X2, hX2⟩ : ∃ X2, X2 = w12.heap.size := ⟨_, rfl⟩
  rw [← hX2] at HX11 ⊢
  clear hX2
  generalize w12.alloc (.cells #[.slice (some ⟨g1, 0, none⟩) p p, .slice (some ⟨g2, 0, none⟩) p p] 33) = w13 at *
  have HF13 : Hd (Fr (fun _ => False) wy w13) := HF11.out.trans HFz.out
  have HFw2 : Hd (Fr (fun _ => False) w w13) := HFw.out.trans HFz.out
  obtain ⟨x0, x1⟩ := HQ.out w13 HF13.out
  have hi9 : i < (grwP fs i f ms).length := by rw [HLN.out]; exact hi
  clear HFz HFw HF11
  go_wp2_with fail
  refine (show Calls Tryz.prog 13 #[.agg #[vI G, .slice (some ⟨g, 0, none⟩) fs.length cap], vI (i : Int), .slice sa ss.length sc] w13 _ from function_any G _ _ (grwP fs i f ms) ss i w13 (HFAy.out.stay HF13.out) (H3.out.stay HFw2.out) HFI.out B3.out (HT.out.stay HFw2.out) (HR.out.stay HFw2.out (tab_lt HT.out))).mono ?_
  rintro e w14 ⟨hF14, ⟨hn, -⟩ | ⟨j, hj, ej, -, eb', p', r', g1', g2', gs', Y', Z', rfl, hb14, hrow, hsm, hp8, hr4, hsol⟩⟩
  ·exact absurd HE2.out hn
  obtain rfl : i = j := by omega
  rw [HIX.out hi9] at hrow hsol ⊢
  have HFz : Hd (Fr (fun _ => False) w13 (w14.alloc (.cells #[.slice (some ⟨g1', 0, none⟩) p' p', .slice (some ⟨g2', 0, none⟩) p' p'] 33))) := hF14.alloc _
  have HRO2 : Hd (Wg.Row (w14.alloc (.cells #[.slice (some ⟨g1', 0, none⟩) p' p', .slice (some ⟨g2', 0, none⟩) p' p'] 33)) 4 eb' (locN { f with code := f.code ++ ms }) (fun l => .bool (escF ss { f with code := f.code ++ ms } l))) := Row.stay hrow (Fr.alloc (Fr.refl _ w14) _)
  have HSA2 : Hd (IA (w14.alloc (.cells #[.slice (some ⟨g1', 0, none⟩) p' p', .slice (some ⟨g2', 0, none⟩) p' p'] 33)) (.slice (some ⟨g1', 0, none⟩) p' p') (solF ss { f with code := f.code ++ ms }).H ∧ LA (w14.alloc (.cells #[.slice (some ⟨g1', 0, none⟩) p' p', .slice (some ⟨g2', 0, none⟩) p' p'] 33)) (.slice (some ⟨g2', 0, none⟩) p' p') (solF ss { f with code := f.code ++ ms }).R) := by
   rw [hsol]
   exact ((hsm.keep (Fr.alloc (Fr.refl _ w14) _)).so hp8 hr4).sa
  have HX14 : Hd ((w14.alloc (.cells #[.slice (some ⟨g1', 0, none⟩) p' p', .slice (some ⟨g2', 0, none⟩) p' p'] 33)).heap[w14.heap.size]? = some (.cells #[.slice (some ⟨g1', 0, none⟩) p' p', .slice (some ⟨g2', 0, none⟩) p' p'] 33)) := heap_new0 w14 _
  clear hF14 ej hb14 hrow hsm hp8 hr4 hsol x0 x1
  go_upto_region 17 with fail
  obtain ⟨X4, hX4⟩ : ∃ X4, X4 = w14.heap.size := ⟨_, rfl⟩
  rw [← hX4] at HX14 ⊢
  clear hX4
  generalize w14.alloc (.cells #[.slice (some ⟨g1', 0, none⟩) p' p', .slice (some ⟨g2', 0, none⟩) p' p'] 33) = w15 at *
  obtain ⟨k1, k2, k3, k4, k5, k6, k7⟩ := HLAW.out
  have HAB : Hd (Calls Tryz.prog 14 #[.agg #[.slice (some ⟨g1', 0, none⟩) p' p', .slice (some ⟨g2', 0, none⟩) p' p'], .agg #[.slice (some ⟨g1, 0, none⟩) p p, .slice (some ⟨g2, 0, none⟩) p p]] w15 fun e w' => e = .returned (.bool true) ∧ Fr (fun _ => False) w15 w') := above_lwr _ _ _ _ _ _ f.P f.R w15 HSA2.out.1 HSA2.out.2 (HSA.out.1.stay HFz.out) (HSA.out.2.stay HFz.out) k2 k4 k5 k6
  have HES : Hd (∀ l, l < locN f → escF ss f l = true → escF ss { f with code := f.code ++ ms } l = true) := k1
  have HR15 : Hd (Wg.Row w15 4 eb (locN f) (fun l => .bool (escF ss f l))) := Row.stay HRO.out HFz.out
  have s0 : w15.cell? ⟨X2, 0, none⟩ = some (.slice (some ⟨g1, 0, none⟩) p p) := by rw [cell_of0 (keepF HX11.out HFz.out)]; rfl
  have s1 : w15.cell? ⟨X2, 1, none⟩ = some (.slice (some ⟨g2, 0, none⟩) p p) := by rw [cell_of0 (keepF HX11.out HFz.out)]; rfl
  have t0 : w15.cell? ⟨X4, 0, none⟩ = some (.slice (some ⟨g1', 0, none⟩) p' p') := by rw [cell_of0 HX14.out]; rfl
  have t1 : w15.cell? ⟨X4, 1, none⟩ = some (.slice (some ⟨g2', 0, none⟩) p' p') := by rw [cell_of0 HX14.out]; rfl
  have HF15 : Hd (Fr (fun _ => False) w w15) := HFw2.out.trans HFz.out
  generalize escF ss f = ef at *
  generalize escF ss { f with code := f.code ++ ms } = ef' at *
  generalize locN f = n at *
  generalize locN { f with code := f.code ++ ms } = n' at *
  have dn : decide ((n' : Int) < n) = false := by simp; omega
  have HN : Hd (n ≤ n') := k3
  clear k1 k2 k3 k4 k5 k6 HLAW HSA HSA2 HRO HFz HFw2 HF13 HQ HFAy HE1 HE2 HIX
  go_wp2_with fail
  refine HAB.out.mono ?_
  rintro e w16 ⟨rfl, hF16⟩
  have HF16 : Hd (Fr (fun _ => False) w w16) := HF15.out.trans hF16
  have HRa : Hd (Wg.Row w16 4 eb n (fun l => .bool (ef l))) := Row.stay HR15.out hF16
  have HRb : Hd (Wg.Row w16 4 eb' n' (fun l => .bool (ef' l))) := Row.stay HRO2.out hF16
  clear hF16 HAB s0 s1 t0 t1 HF15 HR15 HRO2
  go_wp2_with fail
  go_loopw [16] (fun v wr => ∃ (k : Nat), v = .int .i64 k ∧ k ≤ n ∧ Hd (Wg.Row wr 4 eb n (fun l => .bool (ef l))) ∧ Hd (Wg.Row wr 4 eb' n' (fun l => .bool (ef' l))) ∧ Hd (Fr (fun _ => False) w wr)) (fun v _ => match v with | .int _ q => n - q.toNat | _ => 0)
  case atStart => exact ⟨0, rfl, Nat.zero_le _, HRa.out, HRb.out, HF16.out⟩
  case round =>
   clear HRa HRb HF16
   obtain ⟨k, rfl, hk, HRa, HRb, HF16⟩ := hrel
   by_cases hlt : k < n
   ·have hk0 : (0 : Int) ≤ k := by omega
    have hk1 : (k : Int) < n := by omega
    have hk2 : (k : Int) < n' := by have := HN.out; omega
    have hk3 : k < n' := by omega
    have q0 := HRa.out.cell hlt
    have q1 := HRb.out.cell hk3
    have himp := HES.out k hlt
    cases ha : ef k with
    | false =>
      rw [ha] at q0
      clear himp ha
      go_wp2_with fail
      exact ⟨⟨k + 1, by simp, by omega, HRa.out, HRb.out, HF16.out⟩, by simp; omega⟩
    | true =>
      rw [ha] at q0
      rw [himp ha] at q1
      clear himp ha
      go_wp2_with fail
      exact ⟨⟨k + 1, by simp, by omega, HRa.out, HRb.out, HF16.out⟩, by simp; omega⟩
   ·have dk : decide ((k : Int) < n) = false := by simp; omega
    go_wp2_with fail
    go_ret
    exact ⟨rfl, HF16.out⟩
end Go.Proofs.YtdkijecnnmncnaaGreatDoor
