import Derived.Test.YtjmbfjaahadbhaaGreatDoorQUaJ
import Derived.Test.YtjmbfjaahadbhaaGreatDoorQOcJ
set_option linter.unusedVariables false
set_option linter.unusedSimpArgs false
namespace Go.Proofs.YtjmbfjaahadbhaaGreatDoor
open Go.RowKit (wrap32 wrap64)

set_option maxRecDepth 100000 in
set_option maxHeartbeats 16000000 in
theorem graphs_any (G : Int) (fs : List PF) (fv : Value) (w : World) (h : FA w fv fs) (hn : FineP fs) (hT : Tab w) (h0 : 0 < w.heap.size) (ov : Value) (l : List Int) (ho : IA w ov l) :
    Calls Tryz.prog 3 #[.agg #[vI G, fv], ov] w fun e w' => e = .returned (.bool true) ∧ Fr (fun _ => False) w w' := by
  obtain ⟨a0, cp0, efv, -⟩ := id h
  subst efv
  obtain ⟨oa, oc, eov, -⟩ := id ho
  subst eov
  obtain ⟨ol, hol⟩ : ∃ ol, ol = l.length := ⟨_, rfl⟩
  have HOLL : Hd (ol = l.length) := hol
  obtain ⟨N, hN⟩ : ∃ N, N = fs.length := ⟨_, rfl⟩
  have HNN : Hd (N = fs.length) := hN
  have HIA : Hd (IA w (.slice oa ol oc) l) := by rw [hol]; exact ho
  have HFP : Hd (FA w (.slice a0 N cp0) fs ∧ FineP fs ∧ Tab w ∧ 0 < w.heap.size) := by rw [hN]; exact ⟨h, hn, hT, h0⟩
  rw [← hN, ← hol]
  obtain ⟨wa, hwa⟩ : ∃ wa, wa = w.alloc (.cells #[vI G, .slice a0 N cp0] 24) := ⟨_, rfl⟩
  obtain ⟨H, hH⟩ : ∃ H, H = w.heap.size := ⟨_, rfl⟩
  have HH : Hd (H = w.heap.size) := hH
  have hFa : Fr (fun _ => False) w wa := by rw [hwa]; exact Fr.alloc (Fr.refl _ w) _
  have hba : wa.heap[H]? = some (.cells #[vI G, .slice a0 N cp0] 24) := by rw [hwa, hH]; exact heap_new0 w _
  have HWA : Hd (wa = w.alloc (.cells #[vI G, .slice a0 N cp0] 24)) := hwa
  have HBA : Hd (wa.heap[H]? = some (.cells #[vI G, .slice a0 N cp0] 24)) := hba
  have HFA : Hd (Fr (fun _ => False) w wa) := hFa
  have HLG : Hd (Calls Tryz.prog 4 #[.agg #[vI G, .slice a0 N cp0]] wa fun e w' => ∃ b, e = .returned (.bool b) ∧ Fr (fun _ => False) wa w' ∧ (b = false → fs.length ≤ 2147483647 ∧ ∀ f ∈ fs, SmC 2147483647 f.code)) := long_any G _ fs wa (HFP.out.1.stay hFa) hn
  have HP : Hd (∀ W, Fr (fun _ => False) wa W → W.cell? ⟨H, 0, none⟩ = some (vI G) ∧ W.cell? ⟨H, 1, none⟩ = some (.slice a0 N cp0)) := fun W f => by
    have hb := keepF hba f
    exact ⟨by rw [cell_of0 hb]; rfl, by rw [cell_of0 hb]; rfl⟩
  obtain ⟨c0, c1⟩ := HP.out wa (Fr.refl _ _)
  clear h hn hT h0 hwa hH hFa hba hN hol ho
  go_enter Tryz.func3, Tryz.ntmps3
  go_upto_region 1 with fail
  rw [← HWA.out, ← HH.out]
  clear HWA
  go_wp2_with fail
  refine Calls.mono HLG.out ?_
  rintro e w1 ⟨lgb, rfl, hF1, hlg⟩
  have HF1 : Hd (Fr (fun _ => False) w w1 ∧ Fr (fun _ => False) wa w1) := ⟨HFA.out.trans hF1, hF1⟩
  have HLF : Hd (lgb = false → fs.length ≤ 2147483647 ∧ ∀ f ∈ fs, SmC 2147483647 f.code) := hlg
  clear hF1 HLG c0 c1 hlg
  cases lgb with
  | true =>
    go_wp2_with fail
    go_ret
    exact ⟨rfl, HF1.out.1⟩
  | false =>
  have HFI : Hd (FinP fs) := ⟨(HLF.out (by simp)).1, fun f hf => ⟨((HLF.out (by simp)).2 f hf).1, ((HLF.out (by simp)).2 f hf).2⟩⟩
  have hNb : N ≤ 2147483647 := by rw [HNN.out]; exact HFI.out.1
  clear HLF
  go_wp2_with fail
  refine (long1_any ol w1).mono ?_
  rintro e _ ⟨rfl, rfl⟩
  by_cases hol : 2147483647 < ol
  · have d0 : decide (2147483647 < ol) = true := by simp; exact hol
    go_wp2_with fail
    go_ret
    exact ⟨rfl, HF1.out.1⟩
  have d0 : decide (2147483647 < ol) = false := by simp; omega
  have HOL : Hd (l.length ≤ 2147483647) := by unfold Hd; rw [← HOLL.out]; omega
  clear hol
  obtain ⟨c0, c1⟩ := HP.out _ HF1.out.2
  rename_i w1x
  have HSP := spare_any G (.slice a0 N cp0) fs w1x (HFP.out.1.stay HF1.out.1) HFI.out
  go_wp2_with fail
  refine Calls.mono HSP ?_
  rintro e w2 ⟨sv, rfl, hsp, hF2⟩
  obtain ⟨qg, qc, eq⟩ : ∃ qg qc, sv = .slice (some ⟨qg, 0, none⟩) N qc := by obtain ⟨g, c, L, e, -⟩ := hsp; exact ⟨g, c, by rw [e, HNN.out]⟩
  subst eq
  obtain ⟨B, hB⟩ : ∃ B, B = w1x.heap.size := ⟨_, rfl⟩
  obtain ⟨C, hC⟩ : ∃ C, C = w2.heap.size := ⟨_, rfl⟩
  obtain ⟨X, hX⟩ : ∃ X, X = w2.heap.size := ⟨_, rfl⟩
  obtain ⟨w3, hw3⟩ : ∃ w3, w3 = w2.alloc (.cells #[vI G, .slice (some ⟨qg, 0, none⟩) N qc] 24) := ⟨_, rfl⟩
  have HW3 : Hd (w3 = w2.alloc (.cells #[vI G, .slice (some ⟨qg, 0, none⟩) N qc] 24)) := hw3
  have HX : Hd (X = w2.heap.size) := hX
  have hF3 : Fr (fun _ => False) w2 w3 := by rw [hw3]; exact Fr.alloc (Fr.refl _ _) _
  have HB3 : Hd (w3.heap[X]? = some (.cells #[vI G, .slice (some ⟨qg, 0, none⟩) N qc] 24)) := by unfold Hd; rw [hw3, hX]; exact heap_new0 w2 _
  obtain ⟨cn, hcn⟩ : ∃ cn, cn = cnX fs := ⟨_, rfl⟩
  have HCN : Hd (∀ i, i < N → cn i ≤ 2147483647) := by rw [hcn, HNN.out]; exact finP_np HFI.out
  have HSF : Hd (∀ W, Fr (fun _ => False) w3 W → SpF W B (.slice (some ⟨qg, 0, none⟩) N qc) fs) := fun W f => by rw [hB]; exact (hsp.stay hF3).stay f
  have HNP : Hd (NP w3 B C (.slice (some ⟨qg, 0, none⟩) N qc) N cn) := by
    have k := hsp.np HFI.out
    rw [← hB, ← hC, ← hcn, ← HNN.out] at k
    exact k.tc ((Tc.refl B C w2).stay hF3)
  have HXC : Hd (C ≤ X) := by unfold Hd; omega
  have HSZ : Hd (C < w3.heap.size ∧ w.heap.size ≤ B ∧ B ≤ C) := by
    refine ⟨?_, by rw [hB]; exact HF1.out.1.size, by rw [hB, hC]; exact hF2.size⟩
    rw [hw3, World.size_alloc, hC]
    exact Nat.lt_succ_self _
  have HF3 : Hd (Fr (fun _ => False) w w3 ∧ Fr (fun _ => False) wa w3) := ⟨(HF1.out.1.trans hF2).trans hF3, (HF1.out.2.trans hF2).trans hF3⟩
  clear hw3 hX hF3 hsp hF2 hB hC hcn HF1 HSP c0 c1
  go_upto_region 4 with fail
  rw [← HW3.out, ← HX.out]
  clear HW3 HX
  obtain ⟨ck, hck⟩ : ∃ ck, ck = checkP G fs := ⟨_, rfl⟩
  have HCK : Hd (ck = checkP G fs) := hck
  have HNW := new_any G fs (.slice (some ⟨qg, 0, none⟩) N qc) w3 (HSF.out w3 (Fr.refl _ _)).fa HFI.out.fine (HFP.out.2.2.1.fr HF3.out.1 (fun e => e)) (Nat.lt_of_lt_of_le HFP.out.2.2.2 HF3.out.1.size)
  have x0 : w3.cell? ⟨X, 0, none⟩ = some (vI G) := by rw [cell_of0 HB3.out]; rfl
  have x1 : w3.cell? ⟨X, 1, none⟩ = some (.slice (some ⟨qg, 0, none⟩) N qc) := by rw [cell_of0 HB3.out]; rfl
  go_wp2_with fail
  refine Calls.mono HNW ?_
  rintro e w4 hnw
  obtain ⟨hF4, gv, n, of, rfl, hpg⟩ := hnw.pg
  rw [← hck] at hpg ⊢
  have HPG : Hd (PgN ck fs w3 w4 gv n of) := hpg
  have HF4 : Hd (Fr (fun _ => False) w3 w4) := hF4
  have HRN := rnew_any G fs (.slice a0 N cp0) n of w4 (HFP.out.1.stay (HF3.out.1.trans hF4)) HFI.out.fine (fun e => hpg.gp.1 (by rw [hck]; exact e)) (fun e => hpg.gp.2 (by rw [hck]; exact e))
  obtain ⟨c0, c1⟩ := HP.out w4 (HF3.out.2.trans hF4)
  clear hnw hpg hF4 HNW hck x0 x1
  go_wp2_with fail
  refine Calls.mono HRN ?_
  rintro e w5 hrn
  obtain ⟨hF5, hv, rfl, hph⟩ := hrn.ph
  rw [← HCK.out] at hph ⊢
  have HF5 : Hd (Fr (fun _ => False) w3 w5) := HF4.out.trans hF5
  have HPH : Hd (PhN ck fs w4.heap.size w5 hv n of ∧ C ≤ w4.heap.size) := ⟨hph, by have := HSZ.out.1; have := HF4.out.size; omega⟩
  have HPG5 : Hd (PgN ck fs w3 w5 gv n of) := HPG.out.frS hF5 (fun _ _ e => e)
  have hq : ∀ V, (binOp .neq 29 (.pointer gv) (.pointer none)).run Tryz.prog V = .ok (.bool (decide (ck = 0))) V := HPG.out.nil
  obtain ⟨c0, c1⟩ := HP.out w5 (HF3.out.2.trans HF5.out)
  have hb5 := keepF HB3.out HF5.out
  have x0 : w5.cell? ⟨X, 0, none⟩ = some (vI G) := by rw [cell_of0 hb5]; rfl
  have x1 : w5.cell? ⟨X, 1, none⟩ = some (.slice (some ⟨qg, 0, none⟩) N qc) := by rw [cell_of0 hb5]; rfl
  have HST := stays_any G (.slice (some ⟨qg, 0, none⟩) N qc) (.slice a0 N cp0) fs B w5 (HSF.out w5 HF5.out) (HFP.out.1.stay (HF3.out.1.trans HF5.out)) HFI.out
  obtain ⟨okb, hokb⟩ : ∃ okb, okb = decide (ck = 0) := ⟨_, rfl⟩
  have hok : (ck == 0) = okb := by rw [hokb]; rfl
  have HOK : Hd (okb = decide (ck = 0)) := hokb
  rw [← hokb] at hq
  have hq5 := hq w5
  clear hrn hph hF5 HRN HPG HF4 hb5 hokb hq
  go_wp2_with fail
  refine Calls.mono HST ?_
  rintro e w6 ⟨rfl, hF6⟩
  have HF6 : Hd (Fr (fun _ => False) w3 w6 ∧ Fr (fun _ => False) w5 w6) := ⟨HF5.out.trans hF6, hF6⟩
  have hb6 := keepF HB3.out HF6.out.1
  have x0 : w6.cell? ⟨X, 0, none⟩ = some (vI G) := by rw [cell_of0 hb6]; rfl
  have x1 : w6.cell? ⟨X, 1, none⟩ = some (.slice (some ⟨qg, 0, none⟩) N qc) := by rw [cell_of0 hb6]; rfl
  have HNP6 : Hd (NP w6 B C (.slice (some ⟨qg, 0, none⟩) N qc) N cn) := HNP.out.tc ((Tc.refl B C w3).stay HF6.out.1)
  have HTU := turn_any G (.slice (some ⟨qg, 0, none⟩) N qc) N B C cn w6 HNP6.out (by have := HSZ.out.1; have := HF6.out.1.size; omega) hNb HCN.out
  have HB6 : Hd (w6.heap[X]? = some (.cells #[vI G, .slice (some ⟨qg, 0, none⟩) N qc] 24)) := hb6
  clear hF6 HST hb6 c0 c1 hq5 hok
  go_wp2_with fail
  refine Calls.mono HTU ?_
  rintro e w7 ⟨rfl, hT7⟩
  have HT7 : Hd (Tc B C w6 w7) := hT7
  have HNP7 : Hd (NP w7 B C (.slice (some ⟨qg, 0, none⟩) N qc) N cn) := HNP6.out.tc hT7
  have HB7 : Hd (w7.heap[X]? = some (.cells #[vI G, .slice (some ⟨qg, 0, none⟩) N qc] 24)) := hT7.other HB6.out (by decide)
  obtain ⟨gs, hgl, hgfa, hgf⟩ := HNP7.out.fa hNb HCN.out
  have HGS : Hd (FA w7 (.slice (some ⟨qg, 0, none⟩) N qc) gs ∧ FinP gs) := ⟨hgfa, hgf⟩
  have HF7 : Hd (Fr (fun _ => False) w w7) := (HF3.out.1.trans HF6.out.1).then hT7.frB (fun q hq e => by have := HSZ.out; omega)
  have HCP := copyProgram_any G (.slice (some ⟨qg, 0, none⟩) N qc) gs w7 hgfa hgf.fine
  have x0 : w7.cell? ⟨X, 0, none⟩ = some (vI G) := by rw [cell_of0 HB7.out]; rfl
  have x1 : w7.cell? ⟨X, 1, none⟩ = some (.slice (some ⟨qg, 0, none⟩) N qc) := by rw [cell_of0 HB7.out]; rfl
  clear hT7 HTU hgfa hgf HB6
  go_wp2_with fail
  refine Calls.mono HCP ?_
  rintro e w8 ⟨yv, rfl, hyfa, hF8⟩
  obtain ⟨ya, yc, eyv, -⟩ := id hyfa
  rw [hgl] at eyv
  subst eyv
  obtain ⟨Y, hY⟩ : ∃ Y, Y = w8.heap.size := ⟨_, rfl⟩
  obtain ⟨w9, hw9⟩ : ∃ w9, w9 = w8.alloc (.cells #[vI G, .slice ya N yc] 24) := ⟨_, rfl⟩
  have HW9 : Hd (w9 = w8.alloc (.cells #[vI G, .slice ya N yc] 24)) := hw9
  have HY : Hd (Y = w8.heap.size) := hY
  have hF9 : Fr (fun _ => False) w8 w9 := by rw [hw9]; exact Fr.alloc (Fr.refl _ _) _
  have HB9 : Hd (w9.heap[Y]? = some (.cells #[vI G, .slice ya N yc] 24)) := by unfold Hd; rw [hw9, hY]; exact heap_new0 w8 _
  have HYF : Hd (FA w9 (.slice ya N yc) gs) := hyfa.stay hF9
  have HF9 : Hd (Fr (fun _ => False) w7 w9) := hF8.trans hF9
  clear hw9 hY hF9 hF8 hyfa HCP x0 x1
  go_upto_region 10 with fail
  rw [← HW9.out, ← HY.out]
  clear HW9 HY
  have hb9 := keepF HB7.out HF9.out
  have x0 : w9.cell? ⟨X, 0, none⟩ = some (vI G) := by rw [cell_of0 hb9]; rfl
  have x1 : w9.cell? ⟨X, 1, none⟩ = some (.slice (some ⟨qg, 0, none⟩) N qc) := by rw [cell_of0 hb9]; rfl
  obtain ⟨cg, hcg⟩ : ∃ cg, cg = checkP G gs := ⟨_, rfl⟩
  have HCG : Hd (cg = checkP G gs) := hcg
  have HNW := new_any G gs (.slice (some ⟨qg, 0, none⟩) N qc) w9 (HGS.out.1.stay HF9.out) HGS.out.2.fine (HFP.out.2.2.1.fr (HF7.out.trans HF9.out) (fun e => e)) (Nat.lt_of_lt_of_le HFP.out.2.2.2 (HF7.out.trans HF9.out).size)
  clear hb9
  go_wp2_with fail
  refine Calls.mono HNW ?_
  rintro e wA hnw
  obtain ⟨hFA, gw, n2, of2, rfl, hpg2⟩ := hnw.pg
  rw [← hcg] at hpg2 ⊢
  have HFAA : Hd (Fr (fun _ => False) w9 wA) := hFA
  have HRN := rnew_any G gs (.slice ya N yc) n2 of2 wA (HYF.out.stay hFA) HGS.out.2.fine (fun e => hpg2.gp.1 (by rw [hcg]; exact e)) (fun e => hpg2.gp.2 (by rw [hcg]; exact e))
  have HPG2 : Hd (PgN cg gs w9 wA gw n2 of2) := hpg2
  have hbA := keepF HB9.out hFA
  have y0 : wA.cell? ⟨Y, 0, none⟩ = some (vI G) := by rw [cell_of0 hbA]; rfl
  have y1 : wA.cell? ⟨Y, 1, none⟩ = some (.slice ya N yc) := by rw [cell_of0 hbA]; rfl
  clear hnw hpg2 hFA HNW hcg x0 x1 hbA
  go_wp2_with fail
  refine Calls.mono HRN ?_
  rintro e wB hrn
  obtain ⟨hFB, hw, rfl, hph2⟩ := hrn.ph
  rw [← HCG.out] at hph2 ⊢
  have HFB : Hd (Fr (fun _ => False) w7 wB ∧ Fr (fun _ => False) wA wB) := ⟨(HF9.out.trans HFAA.out).trans hFB, hFB⟩
  have HPGB : Hd (PgN cg gs w9 wB gw n2 of2) := HPG2.out.frS hFB (fun _ _ e => e)
  have hq : ∀ V, (binOp .neq 29 (.pointer gw) (.pointer none)).run Tryz.prog V = .ok (.bool (decide (cg = 0))) V := HPG2.out.nil
  have hqB := hq wB
  clear hq
  have HPHB : Hd (PhN cg gs wA.heap.size wB hw n2 of2) := hph2
  have HEND0 : Hd (∀ W0, Fr (fun _ => False) w7 W0 → ∀ W, Fr (fun q => B ≤ q ∧ q < C) W0 W → Fr (fun _ => False) w W ∧ PgN ck fs w3 W gv n of ∧ PhN ck fs w4.heap.size W hv n of) := fun W0 f0 W f => by
    have fS : Fr (fun q => B ≤ q ∧ q < C) w5 W := (((HF6.out.2.mono (fun _ _ e => e.elim) : Fr (fun q => B ≤ q ∧ q < C) w5 w6).then HT7.out.frB (fun _ _ e => e)).then f0 (fun _ _ e => e.elim)).then f (fun _ _ e => e)
    refine ⟨(HF7.out.trans f0).then f (fun q hq e => by have := HSZ.out; omega), HPG5.out.frS fS (fun q hq e => by have := HSZ.out; omega), HPH.out.1.frS fS (fun q hq e => by have := HPH.out.2; omega)⟩
  have HZZ : Hd (∀ W, Fr (fun _ => False) w7 W → Cz W W B C X G qg N qc cn 0) := fun W f => by
    obtain ⟨g, cap, e, hz⟩ := (HNP7.out.tc ((Tc.refl B C w7).stay f)).cz (keepF HB7.out f)
    injection e with e1 e2 e3
    injection e1 with e1
    injection e1 with e1
    subst e1 e3
    exact hz
  clear hrn hph2 hFB HRN HPG2 HFAA HB9 HYF HNP HNP6 HNP7 HPG5 HPH HB3 HB7 HSF HT7 HF5 HF6 y0 y1
  by_cases hcg : cg = 0
  · subst hcg
    obtain ⟨hgne, b2, rfl, hgr2, hgp2, hnN2⟩ : (0 : Int) = 0 ∧ ∃ b : Nat, gw = some ⟨b, 0, none⟩ ∧ GrN gs w9 wB b n2 of2 ∧ Gp gs.length (clX gs) n2 of2 ∧ n2 ≤ gs.length := by
      rcases HPGB.out with ⟨h1, -⟩ | h
      · exact absurd rfl h1
      · exact h
    obtain ⟨-, bh2, rfl, hdg2⟩ : (0 : Int) = 0 ∧ ∃ b, hw = .pointer (some ⟨b, 0, none⟩) ∧ Dg wB gs.length n2 of2 (clX gs) wA.heap.size b := by
      rcases HPHB.out with ⟨h1, -⟩ | h
      · exact absurd rfl h1
      · exact h
    have HLK2 := likes_gd HCG.out.symm hgp2 hnN2 hgr2 hdg2 (.slice none 0 0) [] ⟨none, 0, rfl, fun e => absurd rfl e⟩ (by simp)
    clear hgne hgr2 hgp2 hnN2 hdg2 HPGB HPHB
    go_wp2_with fail
    refine Calls.mono HLK2 ?_
    rintro _ wL ⟨rfl, hFL⟩
    have HFX : Hd (Fr (fun _ => False) w7 wL) := HFB.out.1.trans hFL
    have HZ0 := HZZ.out wL HFX.out
    have HEND := HEND0.out wL HFX.out
    have HZ0 : Hd (Cz wL wL B C X G qg N qc cn 0) := HZ0
    have HEND : Hd (∀ W, Fr (fun q => B ≤ q ∧ q < C) wL W → Fr (fun _ => False) w W ∧ PgN ck fs w3 W gv n of ∧ PhN ck fs w4.heap.size W hv n of) := HEND
    clear hFL HLK2 HFB HZZ HEND0
    clear HFX
    go_wp2_with fail
    go_loopw [15] (fun v wx => ∃ f : Nat, v = .int .i64 f ∧ f ≤ N ∧ Hd (Cz wL wx B C X G qg N qc cn f)) (fun v _ => match v with | .int _ q => N - q.toNat | _ => 0)
    case atStart => exact ⟨0, by simp, Nat.zero_le _, HZ0.out⟩
    case round =>
      clear HZ0
      obtain ⟨f, rfl, hf, HZ⟩ := hrel
      have x1 : wr.cell? ⟨X, 1, none⟩ = some (.slice (some ⟨qg, 0, none⟩) N qc) := by rw [cell_of0 HZ.out.box]; rfl
      by_cases hlt : f < N
      · have d1 : decide ((f : Int) < (N : Int)) = true := by simp; omega
        have f0 : (0 : Int) ≤ f := by omega
        have f1 : (f : Int) < N := by omega
        obtain ⟨gc, cc, hcy⟩ := HZ.out.cy hlt
        have HY0 : Hd (Cy wL wr B C X G qg N qc cn f gc cc) := hcy
        have hcn := HCN.out f hlt
        have HLTF : Hd (f + 1 ≤ N) := hlt
        clear hcy hlt HZ
        go_wp2_with fail
        go_loopw [16] (fun v wx => ∃ k : Nat, v = .int .i64 k ∧ k ≤ cn f ∧ Hd (Cy wL wx B C X G qg N qc cn f gc cc)) (fun v _ => match v with | .int _ q => cn f - q.toNat | _ => 0)
        case atStart => exact ⟨0, by simp, Nat.zero_le _, HY0.out⟩
        case round =>
          clear HY0 x1
          obtain ⟨k, rfl, hk, HY⟩ := hrel
          have HS : Hd (∀ W, Cy wL W B C X G qg N qc cn f gc cc → W.cell? ⟨X, 1, none⟩ = some (.slice (some ⟨qg, 0, none⟩) N qc) ∧ W.cell? ⟨qg, f * 4 + 3, none⟩ = some (.slice (some ⟨gc, 0, none⟩) (cn f) cc)) := fun W hW => ⟨by rw [cell_of0 hW.box]; rfl, hW.pin⟩
          obtain ⟨x1, x2⟩ := HS.out wr HY.out
          by_cases hltk : k < cn f
          · have d2 : decide ((k : Int) < (cn f : Int)) = true := by simp; omega
            have k0 : (0 : Int) ≤ k := by omega
            have k1 : (k : Int) < cn f := by omega
            have HK : Hd (k + 1 ≤ cn f) := hltk
            clear hltk
            go_upto_region 20 with fail
            refine wp_region_held_drew (S := fun W => Cy wL W B C X G qg N qc cn f gc cc) (by kernel_rfl) (HY.out.stay (Fr.drew (Fr.refl _ _))) (fun hHeld => ?_)
            refine heldTake (i := 0) 104 (v := ?_) rfl rfl (by kernel_rfl) (by kernel_rfl) (by kernel_rfl) (fun _ _ _ h => h) (by kernel_rfl) (fun w2 hSw => (by have q0 := HS.out w2 hSw; obtain ⟨q1, q2⟩ := q0; go_simp; try with_reducible rfl)) hHeld ?_
            simp only [Act.put, List.setIfInBounds_toArray, List.set_cons_zero, List.set_cons_succ]
            refine heldTake (i := 1) 105 (v := ?_) rfl rfl (by kernel_rfl) (by kernel_rfl) (by kernel_rfl) (fun _ _ _ h => h) (by kernel_rfl) (fun w2 hSw => (by have q0 := HS.out w2 hSw; obtain ⟨q1, q2⟩ := q0; go_simp; try with_reducible rfl)) hHeld ?_
            simp only [Act.put, List.setIfInBounds_toArray, List.set_cons_zero, List.set_cons_succ]
            refine heldTake (i := 2) 106 (v := ?_) rfl rfl (by kernel_rfl) (by kernel_rfl) (by kernel_rfl) (fun _ _ _ h => h) (by kernel_rfl) (fun w2 hSw => (by have q0 := HS.out w2 hSw; obtain ⟨q1, q2⟩ := q0; go_simp; try with_reducible rfl)) hHeld ?_
            simp only [Act.put, List.setIfInBounds_toArray, List.set_cons_zero, List.set_cons_succ]
            refine heldTake (i := 3) 107 (v := ?_) rfl rfl (by kernel_rfl) (by kernel_rfl) (by kernel_rfl) (fun _ _ _ h => h) (by kernel_rfl) (fun w2 hSw => (by have q0 := HS.out w2 hSw; obtain ⟨q1, q2⟩ := q0; go_simp; try with_reducible rfl)) hHeld ?_
            simp only [Act.put, List.setIfInBounds_toArray, List.set_cons_zero, List.set_cons_succ]
            refine heldTake (i := 4) 108 (v := ?_) rfl rfl (by kernel_rfl) (by kernel_rfl) (by kernel_rfl) (fun _ _ _ h => h) (by kernel_rfl) (fun w2 hSw => (by have q0 := HS.out w2 hSw; obtain ⟨q1, q2⟩ := q0; go_simp; try with_reducible rfl)) hHeld ?_
            simp only [Act.put, List.setIfInBounds_toArray, List.set_cons_zero, List.set_cons_succ]
            refine heldTake (i := 5) 109 (v := ?_) rfl rfl (by kernel_rfl) (by kernel_rfl) (by kernel_rfl) (fun _ _ _ h => h) (by kernel_rfl) (fun w2 hSw => (by have q0 := HS.out w2 hSw; obtain ⟨q1, q2⟩ := q0; go_simp; try with_reducible rfl)) hHeld ?_
            simp only [Act.put, List.setIfInBounds_toArray, List.set_cons_zero, List.set_cons_succ]
            refine heldTake (i := 6) 110 (v := ?_) rfl rfl (by kernel_rfl) (by kernel_rfl) (by kernel_rfl) (fun _ _ _ h => h) (by kernel_rfl) (fun w2 hSw => (by have q0 := HS.out w2 hSw; obtain ⟨q1, q2⟩ := q0; go_simp; try with_reducible rfl)) hHeld ?_
            simp only [Act.put, List.setIfInBounds_toArray, List.set_cons_zero, List.set_cons_succ]
            refine heldOne (i := 7) rfl (by kernel_rfl) (fun K hK => ?_)
            go_simp
            go_wp2_with ((go_at_call 13; refine Calls.mono (back_any _) ?_; rintro e w8 ⟨rfl, hF8⟩; have hHeld2 : Cy wL w8 B C X G qg N qc cn f gc cc := hHeld.stay hF8; clear hF8 hHeld))
            refine hK.out _ _ hHeld2 ?_
            clear hK K
            have hHeld := hHeld2
            clear hHeld2
            refine heldTake (i := 8) 112 (v := ?_) rfl rfl (by kernel_rfl) (by kernel_rfl) (by kernel_rfl) (fun _ _ _ h => h) (by kernel_rfl) (fun w2 hSw => (by have q0 := HS.out w2 hSw; obtain ⟨q1, q2⟩ := q0; go_simp; try with_reducible rfl)) hHeld ?_
            simp only [Act.put, List.setIfInBounds_toArray, List.set_cons_zero, List.set_cons_succ]
            have m0 := hHeld.melt (k * 7)
            have m1 := hHeld.melt (k * 7 + 1)
            have m2 := hHeld.melt (k * 7 + 2)
            have m3 := hHeld.melt (k * 7 + 3)
            have m4 := hHeld.melt (k * 7 + 4)
            have m5 := hHeld.melt (k * 7 + 5)
            have m6 := hHeld.melt (k * 7 + 6)
            obtain ⟨z0, n0⟩ := cy_some hHeld (o := k * 7) (by have := HK.out; omega)
            obtain ⟨z1, n1⟩ := cy_some hHeld (o := k * 7 + 1) (by have := HK.out; omega)
            obtain ⟨z2, n2⟩ := cy_some hHeld (o := k * 7 + 2) (by have := HK.out; omega)
            obtain ⟨z3, n3⟩ := cy_some hHeld (o := k * 7 + 3) (by have := HK.out; omega)
            obtain ⟨z4, n4⟩ := cy_some hHeld (o := k * 7 + 4) (by have := HK.out; omega)
            obtain ⟨z5, n5⟩ := cy_some hHeld (o := k * 7 + 5) (by have := HK.out; omega)
            obtain ⟨z6, n6⟩ := cy_some hHeld (o := k * 7 + 6) (by have := HK.out; omega)
            have HY2 : Hd (∀ a b c d e u v, Cy wL (((((((w8.setCell ⟨gc, k * 7, none⟩ a).setCell ⟨gc, k * 7 + 1, none⟩ b).setCell ⟨gc, k * 7 + 2, none⟩ c).setCell ⟨gc, k * 7 + 3, none⟩ d).setCell ⟨gc, k * 7 + 4, none⟩ e).setCell ⟨gc, k * 7 + 5, none⟩ u).setCell ⟨gc, k * 7 + 6, none⟩ v) B C X G qg N qc cn f gc cc) := fun a b c d e u v => (((((((hHeld.set HXC.out _ a).set HXC.out _ b).set HXC.out _ c).set HXC.out _ d).set HXC.out _ e).set HXC.out _ u).set HXC.out _ v)
            refine heldOne (i := 9) rfl (by kernel_rfl) (fun K hK => ?_)
            go_simp
            go_wp2_with fail
            refine hK.out _ _ (HY2.out _ _ _ _ _ _ _) ?_
            clear hK K
            refine wpAnyH_done (by kernel_rfl) ?_ _
            have hkb := HK.out
            clear m0 m1 m2 m3 m4 m5 m6 n0 n1 n2 n3 n4 n5 n6 hHeld HY
            go_wp2_with fail
            go_roundw
            case measure => simp; omega
            case rel => exact ⟨k + 1, by simp, by omega, HY2.out _ _ _ _ _ _ _⟩
          · have d2 : decide ((k : Int) < (cn f : Int)) = false := by simp; omega
            have d2n : ¬ k < cn f := hltk
            have hfb := HLTF.out
            have m0 := HY.out.toCz.melt (f * 4)
            have m1 := HY.out.toCz.melt (f * 4 + 1)
            have m2 := HY.out.toCz.melt (f * 4 + 2)
            have m3 := HY.out.toCz.melt (f * 4 + 3)
            obtain ⟨z0, n0⟩ := cz_some HY.out.toCz (o := f * 4) (by omega)
            obtain ⟨z1, n1⟩ := cz_some HY.out.toCz (o := f * 4 + 1) (by omega)
            obtain ⟨z2, n2⟩ := cz_some HY.out.toCz (o := f * 4 + 2) (by omega)
            obtain ⟨z3, n3⟩ := cz_some HY.out.toCz (o := f * 4 + 3) (by omega)
            have HZ2 : Hd (∀ a b c d, Cz wL ((((wr.setCell ⟨qg, f * 4, none⟩ a).setCell ⟨qg, f * 4 + 1, none⟩ b).setCell ⟨qg, f * 4 + 2, none⟩ c).setCell ⟨qg, f * 4 + 3, none⟩ d) B C X G qg N qc cn (f + 1)) := fun a b c d => HY.out.toCz.next HXC.out a b c d
            clear hltk HY HS
            go_wp2_with fail
            go_roundw
            case measure => simp; omega
            case rel => exact ⟨f + 1, by simp, by omega, HZ2.out _ _ _ _⟩
      · have d1 : decide ((f : Int) < (N : Int)) = false := by simp; omega
        have d1n : ¬ f < N := hlt
        obtain ⟨hE1, hE2, hE3⟩ := HEND.out wr HZ.out.fr
        have HE1 : Hd (Fr (fun _ => False) w wr) := hE1
        clear hlt HZ hE1
        rcases hE2 with ⟨hc, rfl⟩ | ⟨hc, b, rfl, hgr, hgp, hnN⟩
        · have e0 : (ck == 0) = false := by simp [hc]
          have e0' : (ck != 0) = true := by simp [hc]
          have e0'' : decide (ck = 0) = false := by simp [hc]
          clear hE3 hc
          go_wp2_with fail
          go_ret
          exact ⟨rfl, HE1.out⟩
        · rcases hE3 with ⟨hc', -⟩ | ⟨-, bh, rfl, hdg⟩
          · exact absurd hc hc'
          have HLK : Hd (Calls Tryz.prog 12 #[.pointer (some ⟨b, 0, none⟩), .pointer (some ⟨bh, 0, none⟩), .slice oa ol oc] wr fun e w' => e = .returned (.bool true) ∧ Fr (fun _ => False) wr w') := likes_gd (by rw [← HCK.out]; exact hc) hgp hnN hgr hdg _ l (HIA.out.stay HE1.out) HOL.out
          subst hc
          clear hgr hgp hnN hdg
          go_wp2_with fail
          refine Calls.mono HLK.out ?_
          rintro _ wz ⟨rfl, hFz⟩
          have HFZ : Hd (Fr (fun _ => False) w wz) := HE1.out.trans hFz
          clear hFz HLK
          go_wp2_with fail
          go_ret
          exact ⟨rfl, HFZ.out⟩
  · have HPX : Hd (gw = none) := by
      rcases HPGB.out with ⟨-, h⟩ | ⟨h, -⟩
      · exact h
      · exact absurd h hcg
    have e0 : (cg == 0) = false := by simp [hcg]
    have e0' : decide (cg = 0) = false := by simp [hcg]
    rw [e0'] at hqB
    obtain ⟨wL, hwL⟩ : ∃ wL, wL = wB := ⟨_, rfl⟩
    have HFX : Hd (Fr (fun _ => False) w7 wL) := by rw [hwL]; exact HFB.out.1
    have HZ0 : Hd (Cz wL wL B C X G qg N qc cn 0) := HZZ.out wL HFX.out
    have HEND : Hd (∀ W, Fr (fun q => B ≤ q ∧ q < C) wL W → Fr (fun _ => False) w W ∧ PgN ck fs w3 W gv n of ∧ PhN ck fs w4.heap.size W hv n of) := HEND0.out wL HFX.out
    rw [← hwL] at hqB ⊢
    clear hwL HFB HZZ HEND0 HPGB HPHB hcg HPX
    clear HFX
    go_wp2_with fail
    go_loopw [15] (fun v wx => ∃ f : Nat, v = .int .i64 f ∧ f ≤ N ∧ Hd (Cz wL wx B C X G qg N qc cn f)) (fun v _ => match v with | .int _ q => N - q.toNat | _ => 0)
    case atStart => exact ⟨0, by simp, Nat.zero_le _, HZ0.out⟩
    case round =>
      clear HZ0
      obtain ⟨f, rfl, hf, HZ⟩ := hrel
      have x1 : wr.cell? ⟨X, 1, none⟩ = some (.slice (some ⟨qg, 0, none⟩) N qc) := by rw [cell_of0 HZ.out.box]; rfl
      by_cases hlt : f < N
      · have d1 : decide ((f : Int) < (N : Int)) = true := by simp; omega
        have f0 : (0 : Int) ≤ f := by omega
        have f1 : (f : Int) < N := by omega
        obtain ⟨gc, cc, hcy⟩ := HZ.out.cy hlt
        have HY0 : Hd (Cy wL wr B C X G qg N qc cn f gc cc) := hcy
        have hcn := HCN.out f hlt
        have HLTF : Hd (f + 1 ≤ N) := hlt
        clear hcy hlt HZ
        go_wp2_with fail
        go_loopw [16] (fun v wx => ∃ k : Nat, v = .int .i64 k ∧ k ≤ cn f ∧ Hd (Cy wL wx B C X G qg N qc cn f gc cc)) (fun v _ => match v with | .int _ q => cn f - q.toNat | _ => 0)
        case atStart => exact ⟨0, by simp, Nat.zero_le _, HY0.out⟩
        case round =>
          clear HY0 x1
          obtain ⟨k, rfl, hk, HY⟩ := hrel
          have HS : Hd (∀ W, Cy wL W B C X G qg N qc cn f gc cc → W.cell? ⟨X, 1, none⟩ = some (.slice (some ⟨qg, 0, none⟩) N qc) ∧ W.cell? ⟨qg, f * 4 + 3, none⟩ = some (.slice (some ⟨gc, 0, none⟩) (cn f) cc)) := fun W hW => ⟨by rw [cell_of0 hW.box]; rfl, hW.pin⟩
          obtain ⟨x1, x2⟩ := HS.out wr HY.out
          by_cases hltk : k < cn f
          · have d2 : decide ((k : Int) < (cn f : Int)) = true := by simp; omega
            have k0 : (0 : Int) ≤ k := by omega
            have k1 : (k : Int) < cn f := by omega
            have HK : Hd (k + 1 ≤ cn f) := hltk
            clear hltk
            go_upto_region 20 with fail
            refine wp_region_held_drew (S := fun W => Cy wL W B C X G qg N qc cn f gc cc) (by kernel_rfl) (HY.out.stay (Fr.drew (Fr.refl _ _))) (fun hHeld => ?_)
            refine heldTake (i := 0) 104 (v := ?_) rfl rfl (by kernel_rfl) (by kernel_rfl) (by kernel_rfl) (fun _ _ _ h => h) (by kernel_rfl) (fun w2 hSw => (by have q0 := HS.out w2 hSw; obtain ⟨q1, q2⟩ := q0; go_simp; try with_reducible rfl)) hHeld ?_
            simp only [Act.put, List.setIfInBounds_toArray, List.set_cons_zero, List.set_cons_succ]
            refine heldTake (i := 1) 105 (v := ?_) rfl rfl (by kernel_rfl) (by kernel_rfl) (by kernel_rfl) (fun _ _ _ h => h) (by kernel_rfl) (fun w2 hSw => (by have q0 := HS.out w2 hSw; obtain ⟨q1, q2⟩ := q0; go_simp; try with_reducible rfl)) hHeld ?_
            simp only [Act.put, List.setIfInBounds_toArray, List.set_cons_zero, List.set_cons_succ]
            refine heldTake (i := 2) 106 (v := ?_) rfl rfl (by kernel_rfl) (by kernel_rfl) (by kernel_rfl) (fun _ _ _ h => h) (by kernel_rfl) (fun w2 hSw => (by have q0 := HS.out w2 hSw; obtain ⟨q1, q2⟩ := q0; go_simp; try with_reducible rfl)) hHeld ?_
            simp only [Act.put, List.setIfInBounds_toArray, List.set_cons_zero, List.set_cons_succ]
            refine heldTake (i := 3) 107 (v := ?_) rfl rfl (by kernel_rfl) (by kernel_rfl) (by kernel_rfl) (fun _ _ _ h => h) (by kernel_rfl) (fun w2 hSw => (by have q0 := HS.out w2 hSw; obtain ⟨q1, q2⟩ := q0; go_simp; try with_reducible rfl)) hHeld ?_
            simp only [Act.put, List.setIfInBounds_toArray, List.set_cons_zero, List.set_cons_succ]
            refine heldTake (i := 4) 108 (v := ?_) rfl rfl (by kernel_rfl) (by kernel_rfl) (by kernel_rfl) (fun _ _ _ h => h) (by kernel_rfl) (fun w2 hSw => (by have q0 := HS.out w2 hSw; obtain ⟨q1, q2⟩ := q0; go_simp; try with_reducible rfl)) hHeld ?_
            simp only [Act.put, List.setIfInBounds_toArray, List.set_cons_zero, List.set_cons_succ]
            refine heldTake (i := 5) 109 (v := ?_) rfl rfl (by kernel_rfl) (by kernel_rfl) (by kernel_rfl) (fun _ _ _ h => h) (by kernel_rfl) (fun w2 hSw => (by have q0 := HS.out w2 hSw; obtain ⟨q1, q2⟩ := q0; go_simp; try with_reducible rfl)) hHeld ?_
            simp only [Act.put, List.setIfInBounds_toArray, List.set_cons_zero, List.set_cons_succ]
            refine heldTake (i := 6) 110 (v := ?_) rfl rfl (by kernel_rfl) (by kernel_rfl) (by kernel_rfl) (fun _ _ _ h => h) (by kernel_rfl) (fun w2 hSw => (by have q0 := HS.out w2 hSw; obtain ⟨q1, q2⟩ := q0; go_simp; try with_reducible rfl)) hHeld ?_
            simp only [Act.put, List.setIfInBounds_toArray, List.set_cons_zero, List.set_cons_succ]
            refine heldOne (i := 7) rfl (by kernel_rfl) (fun K hK => ?_)
            go_simp
            go_wp2_with ((go_at_call 13; refine Calls.mono (back_any _) ?_; rintro e w8 ⟨rfl, hF8⟩; have hHeld2 : Cy wL w8 B C X G qg N qc cn f gc cc := hHeld.stay hF8; clear hF8 hHeld))
            refine hK.out _ _ hHeld2 ?_
            clear hK K
            have hHeld := hHeld2
            clear hHeld2
            refine heldTake (i := 8) 112 (v := ?_) rfl rfl (by kernel_rfl) (by kernel_rfl) (by kernel_rfl) (fun _ _ _ h => h) (by kernel_rfl) (fun w2 hSw => (by have q0 := HS.out w2 hSw; obtain ⟨q1, q2⟩ := q0; go_simp; try with_reducible rfl)) hHeld ?_
            simp only [Act.put, List.setIfInBounds_toArray, List.set_cons_zero, List.set_cons_succ]
            have m0 := hHeld.melt (k * 7)
            have m1 := hHeld.melt (k * 7 + 1)
            have m2 := hHeld.melt (k * 7 + 2)
            have m3 := hHeld.melt (k * 7 + 3)
            have m4 := hHeld.melt (k * 7 + 4)
            have m5 := hHeld.melt (k * 7 + 5)
            have m6 := hHeld.melt (k * 7 + 6)
            obtain ⟨z0, n0⟩ := cy_some hHeld (o := k * 7) (by have := HK.out; omega)
            obtain ⟨z1, n1⟩ := cy_some hHeld (o := k * 7 + 1) (by have := HK.out; omega)
            obtain ⟨z2, n2⟩ := cy_some hHeld (o := k * 7 + 2) (by have := HK.out; omega)
            obtain ⟨z3, n3⟩ := cy_some hHeld (o := k * 7 + 3) (by have := HK.out; omega)
            obtain ⟨z4, n4⟩ := cy_some hHeld (o := k * 7 + 4) (by have := HK.out; omega)
            obtain ⟨z5, n5⟩ := cy_some hHeld (o := k * 7 + 5) (by have := HK.out; omega)
            obtain ⟨z6, n6⟩ := cy_some hHeld (o := k * 7 + 6) (by have := HK.out; omega)
            have HY2 : Hd (∀ a b c d e u v, Cy wL (((((((w8.setCell ⟨gc, k * 7, none⟩ a).setCell ⟨gc, k * 7 + 1, none⟩ b).setCell ⟨gc, k * 7 + 2, none⟩ c).setCell ⟨gc, k * 7 + 3, none⟩ d).setCell ⟨gc, k * 7 + 4, none⟩ e).setCell ⟨gc, k * 7 + 5, none⟩ u).setCell ⟨gc, k * 7 + 6, none⟩ v) B C X G qg N qc cn f gc cc) := fun a b c d e u v => (((((((hHeld.set HXC.out _ a).set HXC.out _ b).set HXC.out _ c).set HXC.out _ d).set HXC.out _ e).set HXC.out _ u).set HXC.out _ v)
            refine heldOne (i := 9) rfl (by kernel_rfl) (fun K hK => ?_)
            go_simp
            go_wp2_with fail
            refine hK.out _ _ (HY2.out _ _ _ _ _ _ _) ?_
            clear hK K
            refine wpAnyH_done (by kernel_rfl) ?_ _
            have hkb := HK.out
            clear m0 m1 m2 m3 m4 m5 m6 n0 n1 n2 n3 n4 n5 n6 hHeld HY
            go_wp2_with fail
            go_roundw
            case measure => simp; omega
            case rel => exact ⟨k + 1, by simp, by omega, HY2.out _ _ _ _ _ _ _⟩
          · have d2 : decide ((k : Int) < (cn f : Int)) = false := by simp; omega
            have d2n : ¬ k < cn f := hltk
            have hfb := HLTF.out
            have m0 := HY.out.toCz.melt (f * 4)
            have m1 := HY.out.toCz.melt (f * 4 + 1)
            have m2 := HY.out.toCz.melt (f * 4 + 2)
            have m3 := HY.out.toCz.melt (f * 4 + 3)
            obtain ⟨z0, n0⟩ := cz_some HY.out.toCz (o := f * 4) (by omega)
            obtain ⟨z1, n1⟩ := cz_some HY.out.toCz (o := f * 4 + 1) (by omega)
            obtain ⟨z2, n2⟩ := cz_some HY.out.toCz (o := f * 4 + 2) (by omega)
            obtain ⟨z3, n3⟩ := cz_some HY.out.toCz (o := f * 4 + 3) (by omega)
            have HZ2 : Hd (∀ a b c d, Cz wL ((((wr.setCell ⟨qg, f * 4, none⟩ a).setCell ⟨qg, f * 4 + 1, none⟩ b).setCell ⟨qg, f * 4 + 2, none⟩ c).setCell ⟨qg, f * 4 + 3, none⟩ d) B C X G qg N qc cn (f + 1)) := fun a b c d => HY.out.toCz.next HXC.out a b c d
            clear hltk HY HS
            go_wp2_with fail
            go_roundw
            case measure => simp; omega
            case rel => exact ⟨f + 1, by simp, by omega, HZ2.out _ _ _ _⟩
      · have d1 : decide ((f : Int) < (N : Int)) = false := by simp; omega
        have d1n : ¬ f < N := hlt
        obtain ⟨hE1, hE2, hE3⟩ := HEND.out wr HZ.out.fr
        have HE1 : Hd (Fr (fun _ => False) w wr) := hE1
        clear hlt HZ hE1
        rcases hE2 with ⟨hc, rfl⟩ | ⟨hc, b, rfl, hgr, hgp, hnN⟩
        · have e0 : (ck == 0) = false := by simp [hc]
          have e0' : (ck != 0) = true := by simp [hc]
          have e0'' : decide (ck = 0) = false := by simp [hc]
          clear hE3 hc
          go_wp2_with fail
          go_ret
          exact ⟨rfl, HE1.out⟩
        · rcases hE3 with ⟨hc', -⟩ | ⟨-, bh, rfl, hdg⟩
          · exact absurd hc hc'
          have HLK : Hd (Calls Tryz.prog 12 #[.pointer (some ⟨b, 0, none⟩), .pointer (some ⟨bh, 0, none⟩), .slice oa ol oc] wr fun e w' => e = .returned (.bool true) ∧ Fr (fun _ => False) wr w') := likes_gd (by rw [← HCK.out]; exact hc) hgp hnN hgr hdg _ l (HIA.out.stay HE1.out) HOL.out
          subst hc
          clear hgr hgp hnN hdg
          go_wp2_with fail
          refine Calls.mono HLK.out ?_
          rintro _ wz ⟨rfl, hFz⟩
          have HFZ : Hd (Fr (fun _ => False) w wz) := HE1.out.trans hFz
          clear hFz HLK
          go_wp2_with fail
          go_ret
          exact ⟨rfl, HFZ.out⟩
end Go.Proofs.YtjmbfjaahadbhaaGreatDoor
