import Derived.Test.YtjmbfjaahadbhaaDoorQOmJ
import Derived.Test.YtjmbfjaahadbhaaDoorQOr
import Derived.Test.YtjmbfjaahadbhaaDoorQUa
set_option linter.unusedVariables false
set_option linter.unusedSimpArgs false
namespace Go.Proofs.YtjmbfjaahadbhaaDoor
open Go.RowKit (wrap32 wrap64)

theorem wsm (n : Int) (h : -9223372036854775808 ≤ n ∧ n ≤ 9223372036854775807) : IntKind.i64.wrap n = n := by rw [IntKind.wrap_i64]; omega
set_option maxRecDepth 100000 in
set_option maxHeartbeats 16000000 in
theorem own_any (G : Int) (fs : List PF) (fv : Value) (w : World) (h : FA w fv fs) (hn : FineP fs) (hT : Tab w) (h0 : 0 < w.heap.size) :
    Calls Tryd.prog 7 #[.agg #[vI G, fv]] w fun e w' => e = .returned (.bool true) ∧ Fr (fun _ => False) w w' := by
  obtain ⟨a0, cp0, efv, -⟩ := id h
  subst efv
  obtain ⟨wa, hwa⟩ : ∃ wa, wa = w.alloc (.cells #[vI G, .slice a0 fs.length cp0] 24) := ⟨_, rfl⟩
  obtain ⟨H, hH⟩ : ∃ H, H = w.heap.size := ⟨_, rfl⟩
  have HH : Hd (H = w.heap.size) := hH
  have hFa : Fr (fun _ => False) w wa := by rw [hwa]; exact Fr.alloc (Fr.refl _ w) _
  have hba : wa.heap[H]? = some (.cells #[vI G, .slice a0 fs.length cp0] 24) := by rw [hwa, hH]; exact heap_new0 w _
  have HWA : Hd (wa = w.alloc (.cells #[vI G, .slice a0 fs.length cp0] 24)) := hwa
  have HBA : Hd (wa.heap[H]? = some (.cells #[vI G, .slice a0 fs.length cp0] 24)) := hba
  have HFA : Hd (Fr (fun _ => False) w wa) := hFa
  have HFP : Hd (FA w (.slice a0 fs.length cp0) fs ∧ FineP fs ∧ Tab w ∧ 0 < w.heap.size) := ⟨h, hn, hT, h0⟩
  have HLG : Hd (Calls Tryd.prog 16 #[.agg #[vI G, .slice a0 fs.length cp0]] wa fun e w' => ∃ b, e = .returned (.bool b) ∧ Fr (fun _ => False) wa w' ∧ (b = false → fs.length ≤ 2147483647 ∧ ∀ f ∈ fs, SmC 2147483647 f.code)) := long_any G _ fs wa (h.stay hFa) hn
  have c0 : wa.cell? ⟨H, 0, none⟩ = some (vI G) := by rw [cell_of0 hba]; rfl
  have c1 : wa.cell? ⟨H, 1, none⟩ = some (.slice a0 fs.length cp0) := by rw [cell_of0 hba]; rfl
  clear h hn hT h0 hwa hH hFa hba
  go_enter Tryd.func7, Tryd.ntmps7
  go_upto_region 1 with fail
  rw [← HWA.out, ← HH.out]
  clear HWA
  go_wp2_with fail
  refine (nil_len _).mono ?_
  rintro e _ ⟨rfl, rfl⟩
  go_wp2_with fail
  refine (nil_of _).mono ?_
  rintro e _ ⟨rfl, rfl⟩
  go_wp2_with fail
  refine (nil_members _).mono ?_
  rintro e _ ⟨rfl, rfl⟩
  go_wp2_with fail
  refine (nil_callees _).mono ?_
  rintro e _ ⟨rfl, rfl⟩
  go_wp2_with fail
  refine (nil_callers _).mono ?_
  rintro e _ ⟨rfl, rfl⟩
  go_wp2_with fail
  refine Calls.mono HLG.out ?_
  rintro e w1 ⟨lgb, rfl, hF1, -⟩
  have HF1 : Hd (Fr (fun _ => False) w w1) := HFA.out.trans hF1
  have HB1 : Hd (w1.heap[H]? = some (.cells #[vI G, .slice a0 fs.length cp0] 24)) := keepF HBA.out hF1
  clear hF1 HLG c0 c1 HFA HBA
  cases lgb with
  | true =>
    go_wp2_with fail
    go_ret
    exact ⟨rfl, HF1.out⟩
  | false =>
  go_wp2_with fail
  refine (lives_any w1 (HFP.out.2.2.1.fr HF1.out (fun e => e)) (Nat.lt_of_lt_of_le HFP.out.2.2.2 HF1.out.size)).mono ?_
  rintro e w2 ⟨rfl, hF2⟩
  have HF2 : Hd (Fr (fun _ => False) w w2) := HF1.out.trans hF2
  have HB2 : Hd (w2.heap[H]? = some (.cells #[vI G, .slice a0 fs.length cp0] 24)) := keepF HB1.out hF2
  have c0 : w2.cell? ⟨H, 0, none⟩ = some (vI G) := by rw [cell_of0 HB2.out]; rfl
  have c1 : w2.cell? ⟨H, 1, none⟩ = some (.slice a0 fs.length cp0) := by rw [cell_of0 HB2.out]; rfl
  have HGR : Hd (Calls Tryd.prog 19 #[.agg #[vI G, .slice a0 fs.length cp0]] w2 (GhE G fs w2)) := graph_any G fs _ w2 (HFP.out.1.stay HF2.out) HFP.out.2.1 (HFP.out.2.2.1.fr HF2.out (fun e => e)) (Nat.lt_of_lt_of_le HFP.out.2.2.2 HF2.out.size)
  clear hF2 HF1 HB1
  go_wp2_with fail
  refine Calls.mono HGR.out ?_
  rintro e w3 ⟨hF3, hcase⟩
  have HF3 : Hd (Fr (fun _ => False) w w3) := HF2.out.trans hF3
  have HB3 : Hd (w3.heap[H]? = some (.cells #[vI G, .slice a0 fs.length cp0] 24)) := keepF HB2.out hF3
  clear hF3 HGR HF2 HB2 c0 c1
  rcases hcase with ⟨-, rfl⟩ | ⟨hck, b, n, of, rfl, hgr, hgp, hnN⟩
  · go_wp2_with fail
    go_ret
    exact ⟨rfl, HF3.out⟩
  obtain ⟨go, gm, ge, gr, mv, ev, rv, -, -, -, -, -, hga⟩ := hgr
  obtain ⟨hN1, hN2⟩ := check_len hck
  obtain ⟨hok, hcl⟩ := check_calls hck
  have HLT : Hd (∀ x, x < fs.length → ∀ z ∈ clX fs x, z < fs.length) := fun x hx => clX_lt hok hx
  have HLL : Hd (∀ x, x < fs.length → (ddX (clX fs x)).length ≤ 1000000000) := fun x hx => by
    have k0 := ddX_len (clX fs x)
    have k1 := clX_len hx
    have k2 := hcl _ (List.getElem_mem hx)
    omega
  have hn0 : 0 < n := by
    have := hgp.toRg.lt 0 (by omega)
    omega
  have HGA3 : Hd (GA w3 w2.heap.size b go gm ge gr fs.length n mv ev rv of (clX fs)) := hga
  have c0 : w3.cell? ⟨H, 0, none⟩ = some (vI G) := by rw [cell_of0 HB3.out]; rfl
  have c1 : w3.cell? ⟨H, 1, none⟩ = some (.slice a0 fs.length cp0) := by rw [cell_of0 HB3.out]; rfl
  have HRN : Hd (Calls Tryd.prog 26 #[.agg #[vI G, .slice a0 fs.length cp0]] w3 (RnE G fs n of w3)) := rnew_any G fs _ n of w3 (HFP.out.1.stay HF3.out) HFP.out.2.1 (fun _ => hgp) (fun _ => hnN)
  have HCK : Hd (checkP G fs = 0) := hck
  clear hck hgp hga hok hcl
  go_wp2_with fail
  refine Calls.mono HRN.out ?_
  rintro e w4 ⟨hF4, hc4⟩
  rcases hc4 with ⟨hne, -⟩ | ⟨-, bh, rfl, hdg⟩
  · exact absurd HCK.out hne
  obtain ⟨lgh, loh, lch, wgh, wch, ckh, coh, cch, hdv⟩ := hdg.dv (by omega) hn0
  have HF4 : Hd (Fr (fun _ => False) w w4) := HF3.out.trans hF4
  have HGA4 : Hd (GA w4 w2.heap.size b go gm ge gr fs.length n mv ev rv of (clX fs)) := HGA3.out.stay hF4
  have HMU : Hd (Calls Tryd.prog 27 #[.pointer (some ⟨bh, 0, none⟩)] w4 fun e w' => ∃ v us, e = .returned v ∧ LOc w' w4.heap.size v us (tlX fs.length n of (clX fs) n) ∧ Fr (fun _ => False) w4 w') := dmust_any hdv HLT.out HLL.out (by omega) (by omega)
  clear hF4 hdg hdv HRN HGA3 HF3 c0 c1 HB3 HLT HLL
  obtain ⟨T, hTT⟩ : ∃ T, T = tlX fs.length n of (clX fs) n := ⟨_, rfl⟩
  have HTL : Hd (T.length = 4 * n ∧ ∀ l ∈ T, l.length ≤ 65535) := by unfold Hd; rw [hTT]; exact ⟨tlX_len _ _ _ _ _, tlX_each (by omega) (by omega)⟩
  have HTD : Hd (∀ W, Fr (fun _ => False) w4 W → Calls Tryd.prog 28 #[.pointer (some ⟨b, 0, none⟩)] W fun e w' => ∃ v us, e = .returned v ∧ LOd w' W.heap.size v us T ∧ Fr (fun _ => False) W w') := fun W f => by rw [hTT]; exact told_any (HGA4.out.stay f) (by omega) (by omega)
  rw [← hTT] at HMU
  clear hTT HGA4
  go_wp2_with fail
  refine Calls.mono HMU.out ?_
  rintro e w5 ⟨wv, wus, rfl, hwant, hF5⟩
  have HF5 : Hd (Fr (fun _ => False) w w5 ∧ Fr (fun _ => False) w4 w5) := ⟨HF4.out.trans hF5, hF5⟩
  have HWT : Hd (LB w5.heap.size w5 wv T) := hwant.lb
  have HT5 := HTD.out w5 hF5
  obtain ⟨m, hm⟩ : ∃ m, m = T.length := ⟨_, rfl⟩
  have HM : Hd (m = T.length) := hm
  have hm0 : 0 < m := by rw [hm, HTL.out.1]; omega
  have hmb : m ≤ 1000000 := by rw [hm, HTL.out.1]; omega
  obtain ⟨wk, wo, wcc, ewv⟩ := lb_addr HWT.out hm.symm hm0
  subst ewv
  clear hwant hF5 HMU HF4 hm
  go_wp2_with fail
  refine Calls.mono HT5 ?_
  rintro e w6 ⟨lv, us, rfl, hld, hF6⟩
  have HF6 : Hd (Fr (fun _ => False) w5 w6 ∧ Fr (fun _ => False) w4 w6) := ⟨hF6, HF5.out.2.trans hF6⟩
  have HLD0 := hld
  obtain ⟨la, lc, elv⟩ : ∃ g c, lv = .slice (some ⟨g, 0, none⟩) m c := by
    have hul : us.length = m := by rw [hld.ul, HM.out]
    obtain ⟨g, c, e, -, -⟩ := own_cell hld.row (j := 0) (u := us[0]'(by omega)) (List.getElem?_eq_getElem (by omega))
    exact ⟨g, c, by rw [e, hul]⟩
  subst elv
  have HT6 := HTD.out w6 HF6.out.2
  have HLD : Hd (LOd w6 w5.heap.size (.slice (some ⟨la, 0, none⟩) m lc) us T) := hld
  clear hld hF6 HT5 HLD0
  go_wp2_with fail
  refine Calls.mono HT6 ?_
  rintro e w7 ⟨rv2, us2, rfl, hrd, hF7⟩
  have HF7 : Hd (Fr (fun _ => False) w6 w7 ∧ Fr (fun _ => False) w5 w7) := ⟨hF7, HF6.out.1.trans hF7⟩
  have HRD : Hd (LOc w7 w6.heap.size rv2 us2 T) := hrd.toLOc
  obtain ⟨rk, ro, rc2, erv⟩ := lb_addr hrd.toLOc.lb HM.out.symm hm0
  subst erv
  have HLM7 : Hd (Lm w7 w5.heap.size w6.heap.size (.slice (some ⟨la, 0, none⟩) m lc) m (fun i => us.getD i undef) (fun i => T.getD i [])) := (HLD.out.lm HM.out.symm).stay hF7
  have HEQ : Hd (Calls Tryd.prog 29 #[.slice (some ⟨la, 0, none⟩) m lc, .slice (some ⟨wk, wo, none⟩) m wcc] w7 fun e w' => e = .returned (.bool true) ∧ Fr (fun _ => False) w7 w') := eqLists_same _ _ T w7 (HLD.out.toLOc.lb.stay hF7) (HWT.out.stay HF7.out.2) (by rw [← HM.out]; omega) (fun l hl => by have := HTL.out.2 l hl; omega)
  generalize (fun i => us.getD i undef) = U at *
  obtain ⟨nn, hnn⟩ : ∃ nn : Nat → Nat, nn = fun i => (T.getD i []).length := ⟨_, rfl⟩
  have HNB : Hd (∀ j, j < m → nn j ≤ 65535) := fun j hj => by
    rw [hnn]
    have hj' : j < T.length := by rw [← HM.out]; exact hj
    simp only [List.getD_eq_getElem?_getD, List.getElem?_eq_getElem hj', Option.getD_some]
    exact HTL.out.2 _ (List.getElem_mem _)
  have HSA : Hd (∀ W, Fr (fun _ => False) w7 W → StA W W w5.heap.size w6.heap.size (.slice (some ⟨la, 0, none⟩) m lc) m U nn 0 0) := fun W f => StA.start (HLM7.out.stay f) (fun j hj => by rw [hnn])
  clear hrd hF7 HT6 hnn HLD HLM7
  go_wp2_with fail
  refine Calls.mono HEQ.out ?_
  rintro e w8 ⟨rfl, hF8⟩
  have HF8 : Hd (Fr (fun _ => False) w7 w8) := hF8
  have HS8 := HSA.out w8 hF8
  have HA0 : Hd (StA w8 w8 w5.heap.size w6.heap.size (.slice (some ⟨la, 0, none⟩) m lc) m U nn 0 0) := HS8
  obtain ⟨B1, hB1⟩ : ∃ B1, B1 = w5.heap.size := ⟨_, rfl⟩
  obtain ⟨B2, hB2⟩ : ∃ B2, B2 = w6.heap.size := ⟨_, rfl⟩
  have HBB : Hd (B1 = w5.heap.size ∧ B2 = w6.heap.size ∧ B2 ≤ w8.heap.size ∧ B1 ≤ w8.heap.size) := ⟨hB1, hB2, by rw [hB2]; exact Nat.le_trans HF7.out.1.size hF8.size, by rw [hB1]; exact Nat.le_trans HF7.out.2.size hF8.size⟩
  rw [← hB1, ← hB2] at HA0
  have HFS : Hd (∀ W, Fr (fun q => B1 ≤ q ∧ q < B2) w8 W → Fr (fun _ => False) w W ∧ Fr (fun _ => False) w4 W ∧ LB W.heap.size W (.slice (some ⟨wk, wo, none⟩) m wcc) T ∧ LB W.heap.size W (.slice (some ⟨rk, ro, none⟩) m rc2) T) := fun W fW => by
    have f5 : Fr (fun _ => False) w5 W := (HF7.out.2.trans HF8.out).then fW (fun q hq e => by have := HBB.out.1; omega)
    refine ⟨HF5.out.1.trans f5, HF5.out.2.trans f5, HWT.out.stay f5, LOc.lb (LOc.frS (HRD.out.stay HF8.out) fW (fun q hq e => ?_))⟩
    have := HBB.out.2.1
    omega
  clear hF8 HEQ HS8 HSA hB1 hB2 HF8 HF7 HRD HWT HF6 HF5
  go_wp2_with fail
  go_loopw [13] (fun v wx => ∃ i : Nat, v = .int .i64 i ∧ i ≤ m ∧ Hd (StA w8 wx B1 B2 (.slice (some ⟨la, 0, none⟩) m lc) m U nn i 0)) (fun v _ => match v with | .int _ q => m - q.toNat | _ => 0)
  case atStart => exact ⟨0, by simp, Nat.zero_le _, HA0.out⟩
  case round =>
    clear HA0
    obtain ⟨i, rfl, hi, HA⟩ := hrel
    by_cases hlt : i < m
    · have d1 : decide ((i : Int) < (m : Int)) = true := by simp; omega
      have i0 : (0 : Int) ≤ i := by omega
      have i1 : (i : Int) < m := by omega
      have HLTI : Hd (i < m) := hlt
      have hnb := HNB.out i hlt
      clear hlt
      go_wp2_with fail
      go_loopw [14] (fun v wx => ∃ k : Nat, v = .int .i64 k ∧ k ≤ nn i ∧ Hd (StA w8 wx B1 B2 (.slice (some ⟨la, 0, none⟩) m lc) m U nn i k)) (fun v _ => match v with | .int _ q => nn i - q.toNat | _ => 0)
      case atStart => exact ⟨0, by simp, Nat.zero_le _, HA.out⟩
      case round =>
        clear HA
        obtain ⟨k, rfl, hk, HA⟩ := hrel
        obtain ⟨ua, uc, p0, eU, hg⟩ := HA.out.at HLTI.out
        by_cases hltk : k < nn i
        · have d2 : decide ((k : Int) < (nn i : Int)) = true := by simp; omega
          have k0 : (0 : Int) ≤ k := by omega
          have k1 : (k : Int) < nn i := by omega
          obtain ⟨g, rfl, hz⟩ := hg (by omega)
          obtain ⟨z, p1⟩ := hz k hltk
          obtain ⟨hput, p2⟩ := HA.out.put HLTI.out hltk eU
          have HPU : Hd (StA w8 (wr.setCell ⟨g, k, none⟩ (vI (1000 + (i : Int)))) B1 B2 (.slice (some ⟨la, 0, none⟩) m lc) m U nn i (k + 1)) := hput
          have x1 : IntKind.i64.wrap (1000 + (i : Int)) = 1000 + (i : Int) := wsm _ (by omega)
          clear hput hz hg HA hltk eU
          go_wp2_with fail
          go_roundw
          case measure => simp; omega
          case rel => exact ⟨k + 1, by simp, by omega, HPU.out⟩
        · have d2 : decide ((k : Int) < (nn i : Int)) = false := by simp; omega
          have d2n : ¬ k < nn i := hltk
          have HA2 : Hd (StA w8 wr B1 B2 (.slice (some ⟨la, 0, none⟩) m lc) m U nn (i + 1) 0) := HA.out.next HLTI.out (by omega)
          have hlt2 : i + 1 ≤ m := HLTI.out
          clear hltk hg HA eU
          go_wp2_with fail
          go_roundw
          case measure => simp; omega
          case rel => exact ⟨i + 1, by simp, by omega, HA2.out⟩
    · have d1 : decide ((i : Int) < (m : Int)) = false := by simp; omega
      have d1n : ¬ i < m := hlt
      have HFM : Hd (FmX wr wr B1 B2 (.slice (some ⟨la, 0, none⟩) m lc) m U nn (.slice none 0 0) (fun _ => undef) 0) := HA.out.done (by omega) HBB.out.2.2.1
      have HF9 : Hd (Fr (fun q => B1 ≤ q ∧ q < B2) w8 wr) := HA.out.fr
      clear hlt HA
      obtain ⟨w9, hw9⟩ : ∃ w9, w9 = wr := ⟨_, rfl⟩
      rw [← hw9] at HFM HF9
      subst hw9
      go_wp2_with fail
      go_loopw [15, 16] (fun v15 v wx => ∃ (i : Nat) (F : Nat → Value), v = .int .i64 i ∧ i ≤ m ∧ Hd (FmX w9 wx B1 B2 (.slice (some ⟨la, 0, none⟩) m lc) m U nn v15 F i)) (fun _ v _ => match v with | .int _ q => m - q.toNat | _ => 0)
      case atStart => exact ⟨0, _, by simp, Nat.zero_le _, HFM.out⟩
      case round =>
        clear HFM
        obtain ⟨i, F, rfl, hi, HA⟩ := hrel
        by_cases hlt : i < m
        · have d1 : decide ((i : Int) < (m : Int)) = true := by simp; omega
          have i0 : (0 : Int) ≤ i := by omega
          have i1 : (i : Int) < m := by omega
          have HLTI : Hd (i < m) := hlt
          have hnb := HNB.out i hlt
          obtain ⟨ua, uc, p0, eU, -⟩ := HA.out.at hlt
          have HG0 : Hd (GmX w9 wr B1 B2 (.slice (some ⟨la, 0, none⟩) m lc) m U nn u15 F i 0 (.slice ua (nn i) uc)) := by rw [← eU]; exact HA.out.gm hlt
          clear hlt eU HA
          go_wp2_with fail
          go_loopw [17, 18] (fun v17 v wx => ∃ k : Nat, v = .int .i64 k ∧ k ≤ 64 ∧ Hd (GmX w9 wx B1 B2 (.slice (some ⟨la, 0, none⟩) m lc) m U nn u15 F i k v17)) (fun _ v _ => match v with | .int _ q => 64 - q.toNat | _ => 0)
          case atStart => exact ⟨0, by simp, by omega, HG0.out⟩
          case round =>
            clear HG0 p0
            obtain ⟨k, rfl, hk, HG⟩ := hrel
            obtain ⟨va, vc, ev⟩ := HG.out.len
            subst ev
            by_cases hltk : k < 64
            · have d2 : decide ((k : Int) < 64) = true := by simp; omega
              have x1 : IntKind.i64.wrap (-1000 - (i : Int)) = -1000 - (i : Int) := wsm _ (by omega)
              obtain ⟨wz, hwz⟩ : ∃ wz, wz = wr.alloc (.cells #[vI (-1000 - (i : Int))] 3) := ⟨_, rfl⟩
              have hFz : Fr (fun _ => False) wr wz := by rw [hwz]; exact Fr.alloc (Fr.refl _ _) _
              have HWZ : Hd (wz = wr.alloc (.cells #[vI (-1000 - (i : Int))] 3)) := hwz
              have HBZ : Hd (wz.heap[wr.heap.size]? = some (.cells #[vI (-1000 - (i : Int))] 3)) := by unfold Hd; rw [hwz]; exact heap_new0 wr _
              have HGZ : Hd (GmX w9 wz B1 B2 (.slice (some ⟨la, 0, none⟩) m lc) m U nn u15 F i k (.slice va (nn i + k) vc)) := HG.out.stay hFz
              have HBL : Hd (B1 ≤ wz.heap.size) := by
                have h1 := HGZ.out.fr.size
                have h2 := HF9.out.size
                have h3 := HBB.out.2.2.2
                unfold Hd
                omega
              have hk2 : k + 1 ≤ 64 := hltk
              clear hFz hwz HG hltk
              go_wp2_with ((at_builtin; refine Hd.out ?_))
              unfold Hd
              rw [← HWZ.out]
              refine wpList_int rfl (.tmp 125) (.tmp 128) rfl rfl rfl HGZ.out.wo (k := nn i + k) (by rw [List.length_append, mrX_len, List.length_replicate]) HBZ.out (by omega) HBL.out ?_
              intro g6 cap6 w6 hown6 hfr6 hat6 hkp6
              have HG6 : Hd (GmX w9 w6 B1 B2 (.slice (some ⟨la, 0, none⟩) m lc) m U nn u15 F i (k + 1) (.slice (some ⟨g6, 0, none⟩) (nn i + k + 1) cap6)) := HGZ.out.more HLTI.out hown6 hfr6 hat6 hkp6
              clear hown6 hfr6 hat6 hkp6 HGZ HBZ HWZ HBL
              go_wp2_with fail
              go_roundw
              case measure => simp; omega
              case rel => exact ⟨k + 1, by simp, by omega, HG6.out⟩
            · have d2 : decide ((k : Int) < 64) = false := by simp; omega
              have hk64 : k = 64 := by omega
              subst hk64
              obtain ⟨fa, fc, efv⟩ := own_slice HG.out.far
              subst efv
              obtain ⟨wz, hwz⟩ : ∃ wz, wz = wr.alloc (.cells #[.slice va (nn i + 64) vc] 25) := ⟨_, rfl⟩
              have hFz : Fr (fun _ => False) wr wz := by rw [hwz]; exact Fr.alloc (Fr.refl _ _) _
              have HWZ : Hd (wz = wr.alloc (.cells #[.slice va (nn i + 64) vc] 25)) := hwz
              have HBZ : Hd (wz.heap[wr.heap.size]? = some (.cells #[.slice va (nn i + 64) vc] 25)) := by unfold Hd; rw [hwz]; exact heap_new0 wr _
              have HGZ : Hd (GmX w9 wz B1 B2 (.slice (some ⟨la, 0, none⟩) m lc) m U nn (.slice fa i fc) F i 64 (.slice va (nn i + 64) vc)) := HG.out.stay hFz
              have hlt2 : i + 1 ≤ m := HLTI.out
              clear hFz hwz HG hltk
              go_wp2_with ((at_builtin; refine Hd.out ?_))
              unfold Hd
              rw [← HWZ.out]
              refine wpList_row rfl (.tmp 130) (.tmp 132) rfl rfl rfl HGZ.out.far HBZ.out (by omega) HGZ.out.fr.size ?_
              intro g6 cap6 w6 hown6 hfr6
              have HF6 : Hd (FmX w9 w6 B1 B2 (.slice (some ⟨la, 0, none⟩) m lc) m U nn (.slice (some ⟨g6, 0, none⟩) (i + 1) cap6) (at1 F i (.slice va (nn i + 64) vc)) (i + 1)) := HGZ.out.told hown6 hfr6
              clear hown6 hfr6 HGZ HBZ HWZ
              go_wp2_with fail
              go_roundw
              case measure => simp; omega
              case rel => exact ⟨i + 1, _, by simp, by omega, HF6.out⟩
        · have d1 : decide ((i : Int) < (m : Int)) = false := by simp; omega
          have d1n : ¬ i < m := hlt
          have him : i = m := by omega
          subst him
          have HFX := HFS.out wr (HF9.out.then HA.out.fr (fun q _ e => e))
          have HAt : Hd (∀ j, j < i → ∃ a ca, wr.cell? ⟨la, j, none⟩ = some (.slice a (nn j) ca) ∧ (0 < nn j → ∃ g, a = some ⟨g, 0, none⟩ ∧ ∀ t, t < nn j → wr.cell? ⟨g, t, none⟩ = some (vI (1000 + (j : Int))))) := fun j hj => by
            obtain ⟨a, ca, h1, h2, h3⟩ := HA.out.at hj
            exact ⟨a, ca, h1, h3⟩
          obtain ⟨fg, fc, fgj, fcj, efv, -⟩ := HA.out.far_at hm0
          subst efv
          have HFt : Hd (∀ j, j < i → ∃ gj cj, wr.cell? ⟨fg, j, none⟩ = some (.slice (some ⟨gj, 0, none⟩) (nn j + 64) cj) ∧ (∀ t, t < nn j → wr.cell? ⟨gj, t, none⟩ = some (vI (1000 + (j : Int)))) ∧ ∀ t, t < 64 → wr.cell? ⟨gj, nn j + t, none⟩ = some (vI (-1000 - (j : Int)))) := fun j hj => by
            obtain ⟨g, c, gj, cj, e, h1, h2, h3⟩ := HA.out.far_at hj
            injection e with e1
            injection e1 with e1
            injection e1 with e1
            subst e1
            exact ⟨gj, cj, h1, h2, h3⟩
          have HX1 : Hd (Fr (fun _ => False) w wr) := HFX.1
          have HX2 : Hd (Fr (fun _ => False) w4 wr) := HFX.2.1
          have HX3 : Hd (LB wr.heap.size wr (.slice (some ⟨wk, wo, none⟩) i wcc) T) := HFX.2.2.1
          have HX4 : Hd (LB wr.heap.size wr (.slice (some ⟨rk, ro, none⟩) i rc2) T) := HFX.2.2.2
          clear hlt HA HFX HFS HF9 HBB
          obtain ⟨wC, hwC⟩ : ∃ wC, wC = wr := ⟨_, rfl⟩
          rw [← hwC] at HX1 HX2 HX3 HX4 HAt HFt
          subst hwC
          generalize hmi : i = m at *
          clear hmi
          go_wp2_with fail
          go_loopw [19] (fun v wx => ∃ i : Nat, v = .int .i64 i ∧ i ≤ m ∧ Hd (wx = wC)) (fun v _ => match v with | .int _ q => m - q.toNat | _ => 0)
          case atStart => exact ⟨0, by simp, Nat.zero_le _, by first | exact rfl | trivial⟩
          case round =>
            obtain ⟨i, rfl, hi, HW⟩ := hrel
            have hw := HW.out
            subst hw
            by_cases hlt : i < m
            · have d1 : decide ((i : Int) < (m : Int)) = true := by simp; omega
              have i0 : (0 : Int) ≤ i := by omega
              have i1 : (i : Int) < m := by omega
              have hnb := HNB.out i hlt
              obtain ⟨ua, uc, p0, hg⟩ := HAt.out i hlt
              obtain ⟨gj, cj, q0, hq1, hq2⟩ := HFt.out i hlt
              have HG : Hd (0 < nn i → ∃ g, ua = some ⟨g, 0, none⟩ ∧ ∀ t, t < nn i → wr.cell? ⟨g, t, none⟩ = some (vI (1000 + (i : Int)))) := hg
              have HQ1 : Hd (∀ t, t < nn i → wr.cell? ⟨gj, t, none⟩ = some (vI (1000 + (i : Int)))) := hq1
              have HQ2 : Hd (∀ t, t < 64 → wr.cell? ⟨gj, nn i + t, none⟩ = some (vI (-1000 - (i : Int)))) := hq2
              have x1 : IntKind.i64.wrap (1000 + (i : Int)) = 1000 + (i : Int) := wsm _ (by omega)
              have x2 : IntKind.i64.wrap (-1000 - (i : Int)) = -1000 - (i : Int) := wsm _ (by omega)
              have HLTI : Hd (i + 1 ≤ m) := hlt
              clear hg hq1 hq2 hlt
              go_wp2_with fail
              go_loopw [21] (fun v wx => ∃ k : Nat, v = .int .i64 k ∧ k ≤ nn i ∧ Hd (wx = wr)) (fun v _ => match v with | .int _ q => nn i - q.toNat | _ => 0)
              case atStart => exact ⟨0, by simp, Nat.zero_le _, by first | exact rfl | trivial⟩
              case round =>
                obtain ⟨k, rfl, hk, HW2⟩ := hrel
                have hw := HW2.out
                subst hw
                by_cases hltk : k < nn i
                · have d2 : decide ((k : Int) < (nn i : Int)) = true := by simp; omega
                  have k0 : (0 : Int) ≤ k := by omega
                  have k1 : (k : Int) < nn i := by omega
                  have k2 : (k : Int) < ((nn i + 64 : Nat) : Int) := by omega
                  have k3 : (k : Int) < (nn i : Int) + 64 := by omega
                  obtain ⟨g, rfl, hz⟩ := HG.out (by omega)
                  have p1 := hz k hltk
                  have q1 := HQ1.out k hltk
                  clear hz hltk
                  go_wp2_with fail
                  go_roundw
                  case measure => simp; omega
                  case rel => exact ⟨k + 1, by simp, by omega, by first | exact rfl | trivial⟩
                · have d2 : decide ((k : Int) < (nn i : Int)) = false := by simp; omega
                  have d2n : ¬ k < nn i := hltk
                  clear hltk
                  go_wp2_with fail
                  go_loopw [22] (fun v wx => ∃ k : Nat, v = .int .i64 k ∧ k ≤ 64 ∧ Hd (wx = wr)) (fun v _ => match v with | .int _ q => 64 - q.toNat | _ => 0)
                  case atStart => exact ⟨0, by simp, by omega, by first | exact rfl | trivial⟩
                  case round =>
                    obtain ⟨t, rfl, ht, HW3⟩ := hrel
                    have hw := HW3.out
                    subst hw
                    by_cases hltt : t < 64
                    · have d3 : decide ((t : Int) < 64) = true := by simp; omega
                      have y1 : IntKind.i64.wrap ((nn i : Int) + (t : Int)) = (nn i : Int) + (t : Int) := wsm _ (by omega)
                      have t0 : (0 : Int) ≤ (nn i : Int) + (t : Int) := by omega
                      have t1 : (nn i : Int) + (t : Int) < (nn i : Int) + 64 := by omega
                      have t2 : (nn i : Int) + (t : Int) < ((nn i + 64 : Nat) : Int) := by omega
                      have t3 : ((nn i : Int) + (t : Int)).toNat = nn i + t := by omega
                      have q2 := HQ2.out t hltt
                      clear hltt
                      go_wp2_with fail
                      go_roundw
                      case measure => simp; omega
                      case rel => exact ⟨t + 1, by simp, by omega, by first | exact rfl | trivial⟩
                    · have d3 : decide ((t : Int) < 64) = false := by simp; omega
                      have hlt2 := HLTI.out
                      clear hltt
                      go_wp2_with fail
                      go_roundw
                      case measure => simp; omega
                      case rel => exact ⟨i + 1, by simp, by omega, by first | exact rfl | trivial⟩
            · have d1 : decide ((i : Int) < (m : Int)) = false := by simp; omega
              have d1n : ¬ i < m := hlt
              have HE1 : Hd (∀ W, Fr (fun _ => False) wr W → Calls Tryd.prog 29 #[.slice (some ⟨rk, ro, none⟩) m rc2, .slice (some ⟨wk, wo, none⟩) m wcc] W fun e w' => e = .returned (.bool true) ∧ Fr (fun _ => False) W w') := fun W f => eqLists_same _ _ T W (HX4.out.stay f) (HX3.out.stay f) (by rw [← HM.out]; omega) (fun l hl => by have := HTL.out.2 l hl; omega)
              have HR1 : Hd (Fr (fun _ => False) wr wr) := Fr.refl _ _
              clear hlt HAt HFt
              go_wp2_with fail
              refine Calls.mono (HE1.out wr HR1.out) ?_
              rintro e w11 ⟨rfl, hF11⟩
              have HF11 : Hd (Fr (fun _ => False) wr w11) := hF11
              have HT11 := HTD.out w11 (HX2.out.trans hF11)
              clear hF11
              go_wp2_with fail
              refine Calls.mono HT11 ?_
              rintro e w12 ⟨av, aus, rfl, had, hF12⟩
              have HF12 : Hd (Fr (fun _ => False) wr w12) := HF11.out.trans hF12
              have HAD : Hd (LB w12.heap.size w12 av T) := had.toLOc.lb
              clear hF12 had HT11
              go_wp2_with fail
              refine Calls.mono (HE1.out w12 HF12.out) ?_
              rintro e w13 ⟨rfl, hF13⟩
              have HF13 : Hd (Fr (fun _ => False) wr w13) := HF12.out.trans hF13
              have HE2 : Hd (Calls Tryd.prog 29 #[av, .slice (some ⟨wk, wo, none⟩) m wcc] w13 fun e w' => e = .returned (.bool true) ∧ Fr (fun _ => False) w13 w') := eqLists_same _ _ T w13 (HAD.out.stay hF13) (HX3.out.stay HF13.out) (by rw [← HM.out]; omega) (fun l hl => by have := HTL.out.2 l hl; omega)
              clear hF13
              go_wp2_with fail
              refine Calls.mono HE2.out ?_
              rintro e w14 ⟨rfl, hF14⟩
              have HF14 : Hd (Fr (fun _ => False) w w14) := (HX1.out.trans HF13.out).trans hF14
              clear hF14
              go_wp2_with fail
              go_ret
              exact ⟨rfl, HF14.out⟩
end Go.Proofs.YtjmbfjaahadbhaaDoor
