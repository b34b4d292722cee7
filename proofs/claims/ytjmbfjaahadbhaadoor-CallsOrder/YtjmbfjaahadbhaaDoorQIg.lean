import Derived.Test.YtjmbfjaahadbhaaDoorQIl
import Derived.Test.YtjmbfjaahadbhaaDoorQUa
import Derived.Test.YtjmbfjaahadbhaaDoorQH0
set_option linter.unusedVariables false
set_option linter.unusedSimpArgs false
namespace Go.Proofs.YtjmbfjaahadbhaaDoor
open Go.RowKit (wrap32 wrap64)

set_option maxRecDepth 100000 in
set_option maxHeartbeats 16000000 in
theorem order_any (G : Int) (fs : List PF) (fv : Value) (w : World) (h : FA w fv fs) (hn : FineP fs) (hT : Tab w) (h0 : 0 < w.heap.size) :
    Calls Tryd.prog 6 #[.agg #[vI G, fv]] w fun e w' => e = .returned (.bool true) ∧ Fr (fun _ => False) w w' := by
  obtain ⟨a0, cp0, efv, -⟩ := id h
  subst efv
  obtain ⟨wa, hwa⟩ : ∃ wa, wa = w.alloc (.cells #[vI G, .slice a0 fs.length cp0] 24) := ⟨_, rfl⟩
  obtain ⟨H, hH⟩ : ∃ H, H = w.heap.size := ⟨_, rfl⟩
  have HH : Hd (H = w.heap.size) := hH
  have hFa : Fr (fun _ => False) w wa := by rw [hwa]; exact Fr.alloc (Fr.refl _ w) _
  have hba : wa.heap[H]? = some (.cells #[vI G, .slice a0 fs.length cp0] 24) := by rw [hwa, hH]; exact heap_new0 w _
  have HWA : Hd (wa = w.alloc (.cells #[vI G, .slice a0 fs.length cp0] 24)) := hwa
  have HBA : Hd (wa.heap[H]? = some (.cells #[vI G, .slice a0 fs.length cp0] 24)) := hba
  have HFA : Hd (Fr (fun _ => False) w wa) := hFa
  have HFP : Hd (FA w (.slice a0 fs.length cp0) fs ∧ FineP fs ∧ Tab w ∧ 0 < w.heap.size) := ⟨h, hn, hT, h0⟩
  have HLG : Hd (Calls Tryd.prog 16 #[.agg #[vI G, .slice a0 fs.length cp0]] wa fun e w' => ∃ b, e = .returned (.bool b) ∧ Fr (fun _ => False) wa w' ∧ (b = false → fs.length ≤ 2147483647 ∧ ∀ f ∈ fs, SmC 2147483647 f.code)) := long_any G _ fs wa (h.stay hFa) hn
  have c0 : wa.cell? ⟨H, 0, none⟩ = some (vI G) := by rw [cell_of0 hba]; rfl
  have c1 : wa.cell? ⟨H, 1, none⟩ = some (.slice a0 fs.length cp0) := by rw [cell_of0 hba]; rfl
  clear h hn hT h0 hwa hH hFa hba
  go_enter Tryd.func6, Tryd.ntmps6
  go_upto_region 1 with fail
  rw [← HWA.out, ← HH.out]
  clear HWA
  go_wp2_with fail
  refine Calls.mono HLG.out ?_
  rintro e w1 ⟨lg, rfl, hF1, -⟩
  have HF1 : Hd (Fr (fun _ => False) w w1) := HFA.out.trans hF1
  have HB1 : Hd (w1.heap[H]? = some (.cells #[vI G, .slice a0 fs.length cp0] 24)) := keepF HBA.out hF1
  clear hF1 HLG c0 c1 HFA HBA
  cases lg with
  | true =>
    go_wp2_with fail
    go_ret
    exact ⟨rfl, HF1.out⟩
  | false =>
  go_wp2_with fail
  refine (lives_any w1 (HFP.out.2.2.1.fr HF1.out (fun e => e)) (Nat.lt_of_lt_of_le HFP.out.2.2.2 HF1.out.size)).mono ?_
  rintro e w2 ⟨rfl, hF2⟩
  have HF2 : Hd (Fr (fun _ => False) w w2) := HF1.out.trans hF2
  have HB2 : Hd (w2.heap[H]? = some (.cells #[vI G, .slice a0 fs.length cp0] 24)) := keepF HB1.out hF2
  have c0 : w2.cell? ⟨H, 0, none⟩ = some (vI G) := by rw [cell_of0 HB2.out]; rfl
  have c1 : w2.cell? ⟨H, 1, none⟩ = some (.slice a0 fs.length cp0) := by rw [cell_of0 HB2.out]; rfl
  have HGR : Hd (Calls Tryd.prog 19 #[.agg #[vI G, .slice a0 fs.length cp0]] w2 (GhE G fs w2)) := graph_any G fs _ w2 (HFP.out.1.stay HF2.out) HFP.out.2.1 (HFP.out.2.2.1.fr HF2.out (fun e => e)) (Nat.lt_of_lt_of_le HFP.out.2.2.2 HF2.out.size)
  clear hF2 HF1 HB1
  go_wp2_with fail
  refine Calls.mono HGR.out ?_
  rintro e w3 ⟨hF3, hcase⟩
  have HF3 : Hd (Fr (fun _ => False) w w3) := HF2.out.trans hF3
  have HB3 : Hd (w3.heap[H]? = some (.cells #[vI G, .slice a0 fs.length cp0] 24)) := keepF HB2.out hF3
  clear hF3 HGR HF2 HB2 c0 c1
  rcases hcase with ⟨-, rfl⟩ | ⟨hck, b, n, of, rfl, hgr, hgp, hnN⟩
  · go_wp2_with fail
    go_ret
    exact ⟨rfl, HF3.out⟩
  obtain ⟨go, gm, ge, gr, mv, ev, rv, -, -, -, -, -, hga⟩ := hgr
  obtain ⟨hN1, hN2⟩ := check_len hck
  obtain ⟨hok, hcl⟩ := check_calls hck
  have HGP : Hd (Gp fs.length (clX fs) n of) := hgp
  have HCL : Hd (Calls Tryd.prog 24 #[.agg #[vI G, .slice a0 fs.length cp0]] w3 (ClE fs w3)) := called_any G _ fs w3 (HFP.out.1.stay HF3.out) hok (by omega) (fun f hf => by have := hcl f hf; omega)
  have HLT : Hd (∀ x, x < fs.length → ∀ z ∈ clX fs x, z < fs.length) := fun x hx => clX_lt hok hx
  have HLL : Hd (∀ x, x < fs.length → (clX fs x).length ≤ 4096) := fun x hx => by
    have k1 := clX_len hx
    have k2 := hcl _ (List.getElem_mem hx)
    omega
  have HGA3 : Hd (GA w3 w2.heap.size b go gm ge gr fs.length n mv ev rv of (clX fs)) := hga
  have c0 : w3.cell? ⟨H, 0, none⟩ = some (vI G) := by rw [cell_of0 HB3.out]; rfl
  have c1 : w3.cell? ⟨H, 1, none⟩ = some (.slice a0 fs.length cp0) := by rw [cell_of0 HB3.out]; rfl
  clear hck hgp hga hok hcl
  go_wp2_with fail
  refine Calls.mono HCL.out ?_
  rintro e wg ⟨lv, rfl, hlb, hFg⟩
  have HLB : Hd (LB wg.heap.size wg lv (zLs fs.length (clX fs))) := hlb
  have HFg : Hd (Fr (fun _ => False) w wg) := HF3.out.trans hFg
  have HGA : Hd (∀ W, Fr (fun _ => False) wg W → GA W w2.heap.size b go gm ge gr fs.length n mv ev rv of (clX fs)) := fun W fW => HGA3.out.stay (hFg.trans fW)
  have HFR : Hd (Fr (fun _ => False) wg wg) := Fr.refl _ _
  obtain ⟨ck, co, cc, elv⟩ := hlb.some (by omega)
  subst elv
  clear hlb hFg HCL HGA3 c0 c1 HB3 HF3
  generalize hNN : fs.length = N at *
  generalize clX fs = cl at *
  go_wp2_with fail
  go_loopw [8] (fun v wx => ∃ c : Nat, v = .int .i64 c ∧ c ≤ n ∧ Hd (Fr (fun _ => False) wg wx)) (fun v _ => match v with | .int _ q => n - q.toNat | _ => 0)
  case atStart => exact ⟨0, rfl, Nat.zero_le _, HFR.out⟩
  case round =>
    clear HFR
    obtain ⟨c, rfl, hcn, HF⟩ := hrel
    have HLN : Hd (Calls Tryd.prog 12 #[.pointer (some ⟨b, 0, none⟩)] wr fun e w' => e = .returned (vI (n : Int)) ∧ w' = wr) := glen_any wr (HGA.out wr HF.out) (by omega)
    by_cases hlt : c < n
    · have d1 : decide ((c : Int) < (n : Int)) = true := by simp; omega
      have HCE : Hd (Calls Tryd.prog 14 #[.pointer (some ⟨b, 0, none⟩), vI (c : Int)] wr fun e w' => ∃ v', e = .returned v' ∧ IOwn w' wr.heap.size v' (zL (cleX N n of cl c)) ∧ Fr (fun _ => False) wr w') := callees_any c (HGA.out wr HF.out) hlt (by omega) (by omega)
      have HLTC : Hd (c < n) := hlt
      clear hlt
      go_wp2_with fail
      refine Calls.mono HLN.out ?_
      rintro e w5 ⟨rfl, rfl⟩
      clear HLN
      go_wp2_with fail
      refine Calls.mono HCE.out ?_
      rintro e w6 ⟨vd, rfl, hod, hF6⟩
      obtain ⟨da, dc, evd, hld⟩ := lst_of hod
      subst evd
      have HLD : Hd (0 < (cleX N n of cl c).length → ∃ g, da = some ⟨g, 0, none⟩ ∧ Lst w6 g (cleX N n of cl c)) := hld
      have HF6 : Hd (Fr (fun _ => False) wg w6) := HF.out.trans hF6
      have HCR : Hd (Calls Tryd.prog 15 #[.pointer (some ⟨b, 0, none⟩), vI (c : Int)] w6 fun e w' => ∃ v', e = .returned v' ∧ IOwn w' w6.heap.size v' (zL (clrX N n of cl c)) ∧ Fr (fun _ => False) w6 w') := callers_any c (HGA.out w6 HF6.out) HLTC.out (by omega) (by omega)
      clear hod hF6 hld HCE
      go_wp2_with fail
      refine Calls.mono HCR.out ?_
      rintro e w7 ⟨vu, rfl, hou, hF7⟩
      obtain ⟨ua, uc, evu, hlu⟩ := lst_of hou
      subst evu
      have HLU : Hd (0 < (clrX N n of cl c).length → ∃ g, ua = some ⟨g, 0, none⟩ ∧ Lst w7 g (clrX N n of cl c)) := hlu
      have HF7 : Hd (Fr (fun _ => False) wg w7 ∧ Fr (fun _ => False) w6 w7) := ⟨HF6.out.trans hF7, hF7⟩
      have hdl : (cleX N n of cl c).length ≤ 1000000 := by
        have := len_le (cleX_rise (N := N) (n := n) (of := of) (cl := cl) c) (fun x hx => (mem_cleX.1 hx).1)
        omega
      have hul : (clrX N n of cl c).length ≤ 1000000 := by
        have := len_le (clrX_rise (N := N) (n := n) (of := of) (cl := cl) c) (fun x hx => (mem_clrX.1 hx).1)
        omega
      clear hou hF7 hlu HCR HF6 HF
      go_wp2_with fail
      have HF70 : Hd (Fr (fun _ => False) w7 w7) := Fr.refl _ _
      go_loopw [11] (fun v wx => ∃ i : Nat, v = .int .i64 i ∧ i ≤ (cleX N n of cl c).length ∧ Hd (Fr (fun _ => False) w7 wx)) (fun v _ => match v with | .int _ q => (cleX N n of cl c).length - q.toNat | _ => 0)
      case atStart => exact ⟨0, by simp, Nat.zero_le _, HF70.out⟩
      case round =>
        clear HF70
        obtain ⟨i, rfl, hil, HF⟩ := hrel
        by_cases hlti : i < (cleX N n of cl c).length
        · have d2 : decide ((i : Int) < ((cleX N n of cl c).length : Int)) = true := by simp; omega
          obtain ⟨g, eda, hlst⟩ := HLD.out (by omega)
          subst eda
          obtain ⟨x, hx⟩ : ∃ x, (cleX N n of cl c)[i]? = some x := ⟨_, List.getElem?_eq_getElem hlti⟩
          have HNG : Hd (NG n (lwX N of) (cleX N n of cl) (clrX N n of cl)) := HGP.out.toRg.graph HLT.out
          have hxm : x ∈ cleX N n of cl c := List.mem_of_getElem? hx
          have hxc := HNG.out.dn c HLTC.out x hxm
          have hcx : c ∈ clrX N n of cl x := (HNG.out.bk c x HLTC.out (by omega)).2 hxm
          have HC15 : Hd (∀ W, Fr (fun _ => False) w7 W → Calls Tryd.prog 15 #[.pointer (some ⟨b, 0, none⟩), vI (x : Int)] W fun e w' => ∃ v', e = .returned v' ∧ IOwn w' W.heap.size v' (zL (clrX N n of cl x)) ∧ Fr (fun _ => False) W w') := fun W fW => callers_any x (HGA.out W (HF7.out.1.trans fW)) (by omega) (by omega) (by omega)
          have HHS : Hd (∀ W v, IA W v (zL (clrX N n of cl x)) → Calls Tryd.prog 23 #[v, vI (c : Int)] W fun e w' => e = .returned (.bool true) ∧ w' = W) := fun W v hv => by
            have := has_any v (clrX N n of cl x) c W hv (by
              have := len_le (clrX_rise (N := N) (n := n) (of := of) (cl := cl) x) (fun x hx => (mem_clrX.1 hx).1)
              omega)
            rw [decide_eq_true hcx] at this
            exact this
          have HP : Hd (∀ W, Fr (fun _ => False) w7 W → W.cell? ⟨g, i, none⟩ = some (vI (x : Nat))) := fun W fW => hlst W (HF7.out.2.trans fW) i x hx
          have p0 := HP.out wr HF.out
          have i0 : (0 : Int) ≤ i := by omega
          have i1 : (i : Int) < ((cleX N n of cl c).length : Int) := by omega
          have x0 : decide ((x : Int) < 0) = false := by simp
          have x1 : decide ((x : Int) ≥ (c : Int)) = false := by simp; omega
          have x1' : decide ((c : Int) ≤ (x : Int)) = false := by simp; omega
          have x1n : ¬ c ≤ x := by omega
          have HIX : Hd (i < (cleX N n of cl c).length) := hlti
          have HRS : Hd (∀ j y, j < i → (cleX N n of cl c)[j]? = some y → y < x) := fun j y hj hy => by
            rw [List.getElem?_eq_getElem hlti] at hx
            injection hx with hx
            have hj2 : j < (cleX N n of cl c).length := by omega
            rw [List.getElem?_eq_getElem hj2] at hy
            injection hy with hy
            have := (List.pairwise_iff_getElem.1 (cleX_rise (N := N) (n := n) (of := of) (cl := cl) c)) j i hj2 hlti hj
            rw [hx, hy] at this
            exact this
          have HLS : Hd (Lst w6 g (cleX N n of cl c)) := hlst
          clear hlst hxm hcx hx hlti
          by_cases hi0 : i = 0
          · have z0 : decide ((i : Int) > 0) = false := by simp [hi0]
            have z0' : decide ((0 : Int) < (i : Int)) = false := by simp [hi0]
            have z0n : ¬ 0 < i := by omega
            clear hi0 p0
            go_upto_region 16 with fail
            as_aux_lemma =>
              refine wp_region_held_drew (S := fun W => Fr (fun _ => False) w7 W) (by kernel_rfl) (HF.out.drew) (fun hHeld => ?_)
              refine heldTake (i := 0) 64 (v := ?_) rfl rfl (by kernel_rfl) (by kernel_rfl) (by kernel_rfl) (fun _ _ _ h => h) (by kernel_rfl) (fun w hSw => (by have q0 := HP.out w hSw; go_simp; try with_reducible rfl)) hHeld ?_
              simp only [Act.put, List.setIfInBounds_toArray, List.set_cons_zero, List.set_cons_succ]
              refine heldTake (i := 1) 65 (v := ?_) rfl rfl (by kernel_rfl) (by kernel_rfl) (by kernel_rfl) (fun _ _ _ h => h) (by kernel_rfl) (fun w hSw => (by have q0 := HP.out w hSw; go_simp; try with_reducible rfl)) hHeld ?_
              simp only [Act.put, List.setIfInBounds_toArray, List.set_cons_zero, List.set_cons_succ]
              refine heldTake (i := 2) 66 (v := ?_) rfl rfl (by kernel_rfl) (by kernel_rfl) (by kernel_rfl) (fun _ _ _ h => h) (by kernel_rfl) (fun w hSw => (by have q0 := HP.out w hSw; go_simp; try with_reducible rfl)) hHeld ?_
              simp only [Act.put, List.setIfInBounds_toArray, List.set_cons_zero, List.set_cons_succ]
              refine heldTake (i := 3) 67 (v := ?_) rfl rfl (by kernel_rfl) (by kernel_rfl) (by kernel_rfl) (fun _ _ _ h => h) (by kernel_rfl) (fun w hSw => (by have q0 := HP.out w hSw; go_simp; try with_reducible rfl)) hHeld ?_
              simp only [Act.put, List.setIfInBounds_toArray, List.set_cons_zero, List.set_cons_succ]
              refine heldTake (i := 4) 68 (v := ?_) rfl rfl (by kernel_rfl) (by kernel_rfl) (by kernel_rfl) (fun _ _ _ h => h) (by kernel_rfl) (fun w hSw => (by have q0 := HP.out w hSw; go_simp; try with_reducible rfl)) hHeld ?_
              simp only [Act.put, List.setIfInBounds_toArray, List.set_cons_zero, List.set_cons_succ]
              refine heldTake (i := 5) 69 (v := ?_) rfl rfl (by kernel_rfl) (by kernel_rfl) (by kernel_rfl) (fun _ _ _ h => h) (by kernel_rfl) (fun w hSw => (by have q0 := HP.out w hSw; go_simp; try with_reducible rfl)) hHeld ?_
              simp only [Act.put, List.setIfInBounds_toArray, List.set_cons_zero, List.set_cons_succ]
              refine heldTake (i := 6) 70 (v := ?_) rfl rfl (by kernel_rfl) (by kernel_rfl) (by kernel_rfl) (fun _ _ _ h => h) (by kernel_rfl) (fun w hSw => (by have q0 := HP.out w hSw; go_simp; try with_reducible rfl)) hHeld ?_
              simp only [Act.put, List.setIfInBounds_toArray, List.set_cons_zero, List.set_cons_succ]
              refine heldTake (i := 7) 71 (v := ?_) rfl rfl (by kernel_rfl) (by kernel_rfl) (by kernel_rfl) (fun _ _ _ h => h) (by kernel_rfl) (fun w hSw => (by have q0 := HP.out w hSw; go_simp; try with_reducible rfl)) hHeld ?_
              simp only [Act.put, List.setIfInBounds_toArray, List.set_cons_zero, List.set_cons_succ]
              refine heldTake (i := 8) 72 (v := ?_) rfl rfl (by kernel_rfl) (by kernel_rfl) (by kernel_rfl) (fun _ _ _ h => h) (by kernel_rfl) (fun w hSw => (by have q0 := HP.out w hSw; go_simp; try with_reducible rfl)) hHeld ?_
              simp only [Act.put, List.setIfInBounds_toArray, List.set_cons_zero, List.set_cons_succ]
              refine heldTake (i := 9) 73 (v := ?_) rfl rfl (by kernel_rfl) (by kernel_rfl) (by kernel_rfl) (fun _ _ _ h => h) (by kernel_rfl) (fun w hSw => (by have q0 := HP.out w hSw; go_simp; try with_reducible rfl)) hHeld ?_
              simp only [Act.put, List.setIfInBounds_toArray, List.set_cons_zero, List.set_cons_succ]
              refine heldTake (i := 10) 74 (v := ?_) rfl rfl (by kernel_rfl) (by kernel_rfl) (by kernel_rfl) (fun _ _ _ h => h) (by kernel_rfl) (fun w hSw => (by have q0 := HP.out w hSw; go_simp; try with_reducible rfl)) hHeld ?_
              simp only [Act.put, List.setIfInBounds_toArray, List.set_cons_zero, List.set_cons_succ]
              refine heldTake (i := 11) 75 (v := ?_) rfl rfl (by kernel_rfl) (by kernel_rfl) (by kernel_rfl) (fun _ _ _ h => h) (by kernel_rfl) (fun w hSw => (by have q0 := HP.out w hSw; go_simp; try with_reducible rfl)) hHeld ?_
              simp only [Act.put, List.setIfInBounds_toArray, List.set_cons_zero, List.set_cons_succ]
              refine heldTake (i := 12) 76 (v := ?_) rfl rfl (by kernel_rfl) (by kernel_rfl) (by kernel_rfl) (fun _ _ _ h => h) (by kernel_rfl) (fun w hSw => (by have q0 := HP.out w hSw; go_simp; try with_reducible rfl)) hHeld ?_
              simp only [Act.put, List.setIfInBounds_toArray, List.set_cons_zero, List.set_cons_succ]
              refine heldTake (i := 13) 77 (v := ?_) rfl rfl (by kernel_rfl) (by kernel_rfl) (by kernel_rfl) (fun _ _ _ h => h) (by kernel_rfl) (fun w hSw => (by have q0 := HP.out w hSw; go_simp; try with_reducible rfl)) hHeld ?_
              simp only [Act.put, List.setIfInBounds_toArray, List.set_cons_zero, List.set_cons_succ]
              refine heldTake (i := 14) 78 (v := ?_) rfl rfl (by kernel_rfl) (by kernel_rfl) (by kernel_rfl) (fun _ _ _ h => h) (by kernel_rfl) (fun w hSw => (by have q0 := HP.out w hSw; go_simp; try with_reducible rfl)) hHeld ?_
              simp only [Act.put, List.setIfInBounds_toArray, List.set_cons_zero, List.set_cons_succ]
              refine heldTake (i := 15) 79 (v := ?_) rfl rfl (by kernel_rfl) (by kernel_rfl) (by kernel_rfl) (fun _ _ _ h => h) (by kernel_rfl) (fun w hSw => (by have q0 := HP.out w hSw; go_simp; try with_reducible rfl)) hHeld ?_
              simp only [Act.put, List.setIfInBounds_toArray, List.set_cons_zero, List.set_cons_succ]
              refine heldTake (i := 16) 80 (v := ?_) rfl rfl (by kernel_rfl) (by kernel_rfl) (by kernel_rfl) (fun _ _ _ h => h) (by kernel_rfl) (fun w hSw => (by have q0 := HP.out w hSw; go_simp; try with_reducible rfl)) hHeld ?_
              simp only [Act.put, List.setIfInBounds_toArray, List.set_cons_zero, List.set_cons_succ]
              refine heldPass (i := 17) 81 rfl rfl (by kernel_rfl) (by kernel_rfl) (by kernel_rfl) (fun _ _ _ h => h) (by kernel_rfl) hHeld ?_
              simp only [Act.put, List.setIfInBounds_toArray, List.set_cons_zero, List.set_cons_succ]
              refine heldPass (i := 18) 82 rfl rfl (by kernel_rfl) (by kernel_rfl) (by kernel_rfl) (fun _ _ _ h => h) (by kernel_rfl) hHeld ?_
              simp only [Act.put, List.setIfInBounds_toArray, List.set_cons_zero, List.set_cons_succ]
              refine heldPass (i := 19) 83 rfl rfl (by kernel_rfl) (by kernel_rfl) (by kernel_rfl) (fun _ _ _ h => h) (by kernel_rfl) hHeld ?_
              simp only [Act.put, List.setIfInBounds_toArray, List.set_cons_zero, List.set_cons_succ]
              refine heldPass (i := 20) 84 rfl rfl (by kernel_rfl) (by kernel_rfl) (by kernel_rfl) (fun _ _ _ h => h) (by kernel_rfl) hHeld ?_
              simp only [Act.put, List.setIfInBounds_toArray, List.set_cons_zero, List.set_cons_succ]
              refine heldPass (i := 21) 85 rfl rfl (by kernel_rfl) (by kernel_rfl) (by kernel_rfl) (fun _ _ _ h => h) (by kernel_rfl) hHeld ?_
              simp only [Act.put, List.setIfInBounds_toArray, List.set_cons_zero, List.set_cons_succ]
              refine heldPass (i := 22) 86 rfl rfl (by kernel_rfl) (by kernel_rfl) (by kernel_rfl) (fun _ _ _ h => h) (by kernel_rfl) hHeld ?_
              simp only [Act.put, List.setIfInBounds_toArray, List.set_cons_zero, List.set_cons_succ]
              refine heldPass (i := 23) 87 rfl rfl (by kernel_rfl) (by kernel_rfl) (by kernel_rfl) (fun _ _ _ h => h) (by kernel_rfl) hHeld ?_
              simp only [Act.put, List.setIfInBounds_toArray, List.set_cons_zero, List.set_cons_succ]
              refine heldPass (i := 24) 88 rfl rfl (by kernel_rfl) (by kernel_rfl) (by kernel_rfl) (fun _ _ _ h => h) (by kernel_rfl) hHeld ?_
              simp only [Act.put, List.setIfInBounds_toArray, List.set_cons_zero, List.set_cons_succ]
              refine heldPass (i := 25) 89 rfl rfl (by kernel_rfl) (by kernel_rfl) (by kernel_rfl) (fun _ _ _ h => h) (by kernel_rfl) hHeld ?_
              simp only [Act.put, List.setIfInBounds_toArray, List.set_cons_zero, List.set_cons_succ]
              refine heldPass (i := 26) 90 rfl rfl (by kernel_rfl) (by kernel_rfl) (by kernel_rfl) (fun _ _ _ h => h) (by kernel_rfl) hHeld ?_
              simp only [Act.put, List.setIfInBounds_toArray, List.set_cons_zero, List.set_cons_succ]
              refine heldTake (i := 27) 91 (v := ?_) rfl rfl (by kernel_rfl) (by kernel_rfl) (by kernel_rfl) (fun _ _ _ h => h) (by kernel_rfl) (fun w hSw => (by have q0 := HP.out w hSw; go_simp; try with_reducible rfl)) hHeld ?_
              simp only [Act.put, List.setIfInBounds_toArray, List.set_cons_zero, List.set_cons_succ]
              refine heldTake (i := 28) 92 (v := ?_) rfl rfl (by kernel_rfl) (by kernel_rfl) (by kernel_rfl) (fun _ _ _ h => h) (by kernel_rfl) (fun w hSw => (by have q0 := HP.out w hSw; go_simp; try with_reducible rfl)) hHeld ?_
              simp only [Act.put, List.setIfInBounds_toArray, List.set_cons_zero, List.set_cons_succ]
              refine heldTake (i := 29) 93 (v := ?_) rfl rfl (by kernel_rfl) (by kernel_rfl) (by kernel_rfl) (fun _ _ _ h => h) (by kernel_rfl) (fun w hSw => (by have q0 := HP.out w hSw; go_simp; try with_reducible rfl)) hHeld ?_
              simp only [Act.put, List.setIfInBounds_toArray, List.set_cons_zero, List.set_cons_succ]
              refine heldTake (i := 30) 94 (v := ?_) rfl rfl (by kernel_rfl) (by kernel_rfl) (by kernel_rfl) (fun _ _ _ h => h) (by kernel_rfl) (fun w hSw => (by have q0 := HP.out w hSw; go_simp; try with_reducible rfl)) hHeld ?_
              simp only [Act.put, List.setIfInBounds_toArray, List.set_cons_zero, List.set_cons_succ]
              refine heldTake (i := 31) 95 (v := ?_) rfl rfl (by kernel_rfl) (by kernel_rfl) (by kernel_rfl) (fun _ _ _ h => h) (by kernel_rfl) (fun w hSw => (by have q0 := HP.out w hSw; go_simp; try with_reducible rfl)) hHeld ?_
              simp only [Act.put, List.setIfInBounds_toArray, List.set_cons_zero, List.set_cons_succ]
              refine heldTake (i := 32) 96 (v := ?_) rfl rfl (by kernel_rfl) (by kernel_rfl) (by kernel_rfl) (fun _ _ _ h => h) (by kernel_rfl) (fun w hSw => (by have q0 := HP.out w hSw; go_simp; try with_reducible rfl)) hHeld ?_
              simp only [Act.put, List.setIfInBounds_toArray, List.set_cons_zero, List.set_cons_succ]
              refine heldTake (i := 33) 97 (v := ?_) rfl rfl (by kernel_rfl) (by kernel_rfl) (by kernel_rfl) (fun _ _ _ h => h) (by kernel_rfl) (fun w hSw => (by have q0 := HP.out w hSw; go_simp; try with_reducible rfl)) hHeld ?_
              simp only [Act.put, List.setIfInBounds_toArray, List.set_cons_zero, List.set_cons_succ]
              refine heldTake (i := 34) 98 (v := ?_) rfl rfl (by kernel_rfl) (by kernel_rfl) (by kernel_rfl) (fun _ _ _ h => h) (by kernel_rfl) (fun w hSw => (by have q0 := HP.out w hSw; go_simp; try with_reducible rfl)) hHeld ?_
              simp only [Act.put, List.setIfInBounds_toArray, List.set_cons_zero, List.set_cons_succ]
              refine heldTake (i := 36) 100 (v := ?_) rfl rfl (by kernel_rfl) (by kernel_rfl) (by kernel_rfl) (fun _ _ _ h => h) (by kernel_rfl) (fun w hSw => (by have q0 := HP.out w hSw; go_simp; try with_reducible rfl)) hHeld ?_
              simp only [Act.put, List.setIfInBounds_toArray, List.set_cons_zero, List.set_cons_succ]
              refine heldOne (i := 35) rfl (by kernel_rfl) (fun K hK => ?_)
              go_simp
              go_wp2_with ((go_at_call 15; refine Calls.mono (HC15.out _ hHeld) ?_; rintro e w8 ⟨v8, rfl, ho8, hF8⟩; have hHeld2 : Fr (fun _ => False) w7 w8 := hHeld.trans hF8; have HH8 : Hd (Calls Tryd.prog 23 #[v8, vI (c : Int)] w8 fun e w' => e = .returned (.bool true) ∧ w' = w8) := HHS.out w8 v8 ho8.ia; clear ho8 hF8 hHeld))
              refine hK.out _ _ hHeld2 ?_
              clear hK K
              have hHeld := hHeld2
              clear hHeld2
              refine heldOne (i := 37) rfl (by kernel_rfl) (fun K hK => ?_)
              go_simp
              go_wp2_with ((go_at_call 23; refine Calls.mono HH8.out ?_; rintro e w9 ⟨rfl, rfl⟩))
              refine hK.out _ _ hHeld ?_
              clear hK K
              refine heldTake (i := 38) 102 (v := ?_) rfl rfl (by kernel_rfl) (by kernel_rfl) (by kernel_rfl) (fun _ _ _ h => h) (by kernel_rfl) (fun w hSw => (by have q0 := HP.out w hSw; go_simp; try with_reducible rfl)) hHeld ?_
              simp only [Act.put, List.setIfInBounds_toArray, List.set_cons_zero, List.set_cons_succ]
              refine heldTake (i := 39) 103 (v := ?_) rfl rfl (by kernel_rfl) (by kernel_rfl) (by kernel_rfl) (fun _ _ _ h => h) (by kernel_rfl) (fun w hSw => (by have q0 := HP.out w hSw; go_simp; try with_reducible rfl)) hHeld ?_
              simp only [Act.put, List.setIfInBounds_toArray, List.set_cons_zero, List.set_cons_succ]
              refine wpAnyH_done (by kernel_rfl) ?_ _
              clear HC15 HHS HP HH8
              have HF8 : Hd (Fr (fun _ => False) w7 w9) := hHeld
              clear hHeld
              go_wp2_with fail
              go_roundw
              case measure => simp; omega
              case rel => exact ⟨i + 1, by simp, by omega, HF8.out⟩
          · skip
            have z0 : decide ((i : Int) > 0) = true := by simp; omega
            have z0' : decide ((0 : Int) < (i : Int)) = true := by simp; omega
            have z0n : 0 < i := by omega
            obtain ⟨M, hM⟩ : ∃ M : Nat, M = i - 1 := ⟨_, rfl⟩
            obtain ⟨y, hy⟩ : ∃ y, (cleX N n of cl c)[M]? = some y := ⟨_, List.getElem?_eq_getElem (by have := HIX.out; omega)⟩
            have hyx : y < x := HRS.out M y (by omega) hy
            have qM : IntKind.i64.wrap ((i : Int) - 1) = (M : Int) := by rw [wrap_small _ (by omega) (by omega)]; omega
            have qM' : (i : Int) - 1 = (M : Int) := by omega
            have qMw : IntKind.i64.wrap (M : Int) = (M : Int) := wrap_small _ (by omega) (by omega)
            have M0 : (0 : Int) ≤ M := by omega
            have M1 : (M : Int) < ((cleX N n of cl c).length : Int) := by have := HIX.out; omega
            have y1 : decide ((y : Int) ≥ (x : Int)) = false := by simp; omega
            have y1' : decide ((x : Int) ≤ (y : Int)) = false := by simp; omega
            have y1n : ¬ x ≤ y := by omega
            have HP1 : Hd (∀ W, Fr (fun _ => False) w7 W → W.cell? ⟨g, M, none⟩ = some (vI (y : Nat))) := fun W fW => HLS.out W (HF7.out.2.trans fW) M y hy
            clear hi0 hy hyx hM p0
            go_upto_region 16 with fail
            as_aux_lemma =>
              refine wp_region_held_drew (S := fun W => Fr (fun _ => False) w7 W) (by kernel_rfl) (HF.out.drew) (fun hHeld => ?_)
              refine heldTake (i := 0) 64 (v := ?_) rfl rfl (by kernel_rfl) (by kernel_rfl) (by kernel_rfl) (fun _ _ _ h => h) (by kernel_rfl) (fun w hSw => (by have q0 := HP.out w hSw; have q2 := HP1.out w hSw; go_simp; try with_reducible rfl)) hHeld ?_
              simp only [Act.put, List.setIfInBounds_toArray, List.set_cons_zero, List.set_cons_succ]
              refine heldTake (i := 1) 65 (v := ?_) rfl rfl (by kernel_rfl) (by kernel_rfl) (by kernel_rfl) (fun _ _ _ h => h) (by kernel_rfl) (fun w hSw => (by have q0 := HP.out w hSw; have q2 := HP1.out w hSw; go_simp; try with_reducible rfl)) hHeld ?_
              simp only [Act.put, List.setIfInBounds_toArray, List.set_cons_zero, List.set_cons_succ]
              refine heldTake (i := 2) 66 (v := ?_) rfl rfl (by kernel_rfl) (by kernel_rfl) (by kernel_rfl) (fun _ _ _ h => h) (by kernel_rfl) (fun w hSw => (by have q0 := HP.out w hSw; have q2 := HP1.out w hSw; go_simp; try with_reducible rfl)) hHeld ?_
              simp only [Act.put, List.setIfInBounds_toArray, List.set_cons_zero, List.set_cons_succ]
              refine heldTake (i := 3) 67 (v := ?_) rfl rfl (by kernel_rfl) (by kernel_rfl) (by kernel_rfl) (fun _ _ _ h => h) (by kernel_rfl) (fun w hSw => (by have q0 := HP.out w hSw; have q2 := HP1.out w hSw; go_simp; try with_reducible rfl)) hHeld ?_
              simp only [Act.put, List.setIfInBounds_toArray, List.set_cons_zero, List.set_cons_succ]
              refine heldTake (i := 4) 68 (v := ?_) rfl rfl (by kernel_rfl) (by kernel_rfl) (by kernel_rfl) (fun _ _ _ h => h) (by kernel_rfl) (fun w hSw => (by have q0 := HP.out w hSw; have q2 := HP1.out w hSw; go_simp; try with_reducible rfl)) hHeld ?_
              simp only [Act.put, List.setIfInBounds_toArray, List.set_cons_zero, List.set_cons_succ]
              refine heldTake (i := 5) 69 (v := ?_) rfl rfl (by kernel_rfl) (by kernel_rfl) (by kernel_rfl) (fun _ _ _ h => h) (by kernel_rfl) (fun w hSw => (by have q0 := HP.out w hSw; have q2 := HP1.out w hSw; go_simp; try with_reducible rfl)) hHeld ?_
              simp only [Act.put, List.setIfInBounds_toArray, List.set_cons_zero, List.set_cons_succ]
              refine heldTake (i := 6) 70 (v := ?_) rfl rfl (by kernel_rfl) (by kernel_rfl) (by kernel_rfl) (fun _ _ _ h => h) (by kernel_rfl) (fun w hSw => (by have q0 := HP.out w hSw; have q2 := HP1.out w hSw; go_simp; try with_reducible rfl)) hHeld ?_
              simp only [Act.put, List.setIfInBounds_toArray, List.set_cons_zero, List.set_cons_succ]
              refine heldTake (i := 7) 71 (v := ?_) rfl rfl (by kernel_rfl) (by kernel_rfl) (by kernel_rfl) (fun _ _ _ h => h) (by kernel_rfl) (fun w hSw => (by have q0 := HP.out w hSw; have q2 := HP1.out w hSw; go_simp; try with_reducible rfl)) hHeld ?_
              simp only [Act.put, List.setIfInBounds_toArray, List.set_cons_zero, List.set_cons_succ]
              refine heldTake (i := 8) 72 (v := ?_) rfl rfl (by kernel_rfl) (by kernel_rfl) (by kernel_rfl) (fun _ _ _ h => h) (by kernel_rfl) (fun w hSw => (by have q0 := HP.out w hSw; have q2 := HP1.out w hSw; go_simp; try with_reducible rfl)) hHeld ?_
              simp only [Act.put, List.setIfInBounds_toArray, List.set_cons_zero, List.set_cons_succ]
              refine heldTake (i := 9) 73 (v := ?_) rfl rfl (by kernel_rfl) (by kernel_rfl) (by kernel_rfl) (fun _ _ _ h => h) (by kernel_rfl) (fun w hSw => (by have q0 := HP.out w hSw; have q2 := HP1.out w hSw; go_simp; try with_reducible rfl)) hHeld ?_
              simp only [Act.put, List.setIfInBounds_toArray, List.set_cons_zero, List.set_cons_succ]
              refine heldTake (i := 10) 74 (v := ?_) rfl rfl (by kernel_rfl) (by kernel_rfl) (by kernel_rfl) (fun _ _ _ h => h) (by kernel_rfl) (fun w hSw => (by have q0 := HP.out w hSw; have q2 := HP1.out w hSw; go_simp; try with_reducible rfl)) hHeld ?_
              simp only [Act.put, List.setIfInBounds_toArray, List.set_cons_zero, List.set_cons_succ]
              refine heldTake (i := 11) 75 (v := ?_) rfl rfl (by kernel_rfl) (by kernel_rfl) (by kernel_rfl) (fun _ _ _ h => h) (by kernel_rfl) (fun w hSw => (by have q0 := HP.out w hSw; have q2 := HP1.out w hSw; go_simp; try with_reducible rfl)) hHeld ?_
              simp only [Act.put, List.setIfInBounds_toArray, List.set_cons_zero, List.set_cons_succ]
              refine heldTake (i := 12) 76 (v := ?_) rfl rfl (by kernel_rfl) (by kernel_rfl) (by kernel_rfl) (fun _ _ _ h => h) (by kernel_rfl) (fun w hSw => (by have q0 := HP.out w hSw; have q2 := HP1.out w hSw; go_simp; try with_reducible rfl)) hHeld ?_
              simp only [Act.put, List.setIfInBounds_toArray, List.set_cons_zero, List.set_cons_succ]
              refine heldTake (i := 13) 77 (v := ?_) rfl rfl (by kernel_rfl) (by kernel_rfl) (by kernel_rfl) (fun _ _ _ h => h) (by kernel_rfl) (fun w hSw => (by have q0 := HP.out w hSw; have q2 := HP1.out w hSw; go_simp; try with_reducible rfl)) hHeld ?_
              simp only [Act.put, List.setIfInBounds_toArray, List.set_cons_zero, List.set_cons_succ]
              refine heldTake (i := 14) 78 (v := ?_) rfl rfl (by kernel_rfl) (by kernel_rfl) (by kernel_rfl) (fun _ _ _ h => h) (by kernel_rfl) (fun w hSw => (by have q0 := HP.out w hSw; have q2 := HP1.out w hSw; go_simp; try with_reducible rfl)) hHeld ?_
              simp only [Act.put, List.setIfInBounds_toArray, List.set_cons_zero, List.set_cons_succ]
              refine heldTake (i := 15) 79 (v := ?_) rfl rfl (by kernel_rfl) (by kernel_rfl) (by kernel_rfl) (fun _ _ _ h => h) (by kernel_rfl) (fun w hSw => (by have q0 := HP.out w hSw; have q2 := HP1.out w hSw; go_simp; try with_reducible rfl)) hHeld ?_
              simp only [Act.put, List.setIfInBounds_toArray, List.set_cons_zero, List.set_cons_succ]
              refine heldTake (i := 16) 80 (v := ?_) rfl rfl (by kernel_rfl) (by kernel_rfl) (by kernel_rfl) (fun _ _ _ h => h) (by kernel_rfl) (fun w hSw => (by have q0 := HP.out w hSw; have q2 := HP1.out w hSw; go_simp; try with_reducible rfl)) hHeld ?_
              simp only [Act.put, List.setIfInBounds_toArray, List.set_cons_zero, List.set_cons_succ]
              refine heldTake (i := 17) 81 (v := ?_) rfl rfl (by kernel_rfl) (by kernel_rfl) (by kernel_rfl) (fun _ _ _ h => h) (by kernel_rfl) (fun w hSw => (by have q0 := HP.out w hSw; have q2 := HP1.out w hSw; go_simp; try with_reducible rfl)) hHeld ?_
              simp only [Act.put, List.setIfInBounds_toArray, List.set_cons_zero, List.set_cons_succ]
              refine heldTake (i := 18) 82 (v := ?_) rfl rfl (by kernel_rfl) (by kernel_rfl) (by kernel_rfl) (fun _ _ _ h => h) (by kernel_rfl) (fun w hSw => (by have q0 := HP.out w hSw; have q2 := HP1.out w hSw; go_simp; try with_reducible rfl)) hHeld ?_
              simp only [Act.put, List.setIfInBounds_toArray, List.set_cons_zero, List.set_cons_succ]
              refine heldTake (i := 19) 83 (v := ?_) rfl rfl (by kernel_rfl) (by kernel_rfl) (by kernel_rfl) (fun _ _ _ h => h) (by kernel_rfl) (fun w hSw => (by have q0 := HP.out w hSw; have q2 := HP1.out w hSw; go_simp; try with_reducible rfl)) hHeld ?_
              simp only [Act.put, List.setIfInBounds_toArray, List.set_cons_zero, List.set_cons_succ]
              refine heldTake (i := 20) 84 (v := ?_) rfl rfl (by kernel_rfl) (by kernel_rfl) (by kernel_rfl) (fun _ _ _ h => h) (by kernel_rfl) (fun w hSw => (by have q0 := HP.out w hSw; have q2 := HP1.out w hSw; go_simp; try with_reducible rfl)) hHeld ?_
              simp only [Act.put, List.setIfInBounds_toArray, List.set_cons_zero, List.set_cons_succ]
              refine heldTake (i := 21) 85 (v := ?_) rfl rfl (by kernel_rfl) (by kernel_rfl) (by kernel_rfl) (fun _ _ _ h => h) (by kernel_rfl) (fun w hSw => (by have q0 := HP.out w hSw; have q2 := HP1.out w hSw; go_simp; try with_reducible rfl)) hHeld ?_
              simp only [Act.put, List.setIfInBounds_toArray, List.set_cons_zero, List.set_cons_succ]
              refine heldTake (i := 22) 86 (v := ?_) rfl rfl (by kernel_rfl) (by kernel_rfl) (by kernel_rfl) (fun _ _ _ h => h) (by kernel_rfl) (fun w hSw => (by have q0 := HP.out w hSw; have q2 := HP1.out w hSw; go_simp; try with_reducible rfl)) hHeld ?_
              simp only [Act.put, List.setIfInBounds_toArray, List.set_cons_zero, List.set_cons_succ]
              refine heldTake (i := 23) 87 (v := ?_) rfl rfl (by kernel_rfl) (by kernel_rfl) (by kernel_rfl) (fun _ _ _ h => h) (by kernel_rfl) (fun w hSw => (by have q0 := HP.out w hSw; have q2 := HP1.out w hSw; go_simp; try with_reducible rfl)) hHeld ?_
              simp only [Act.put, List.setIfInBounds_toArray, List.set_cons_zero, List.set_cons_succ]
              refine heldTake (i := 24) 88 (v := ?_) rfl rfl (by kernel_rfl) (by kernel_rfl) (by kernel_rfl) (fun _ _ _ h => h) (by kernel_rfl) (fun w hSw => (by have q0 := HP.out w hSw; have q2 := HP1.out w hSw; go_simp; try with_reducible rfl)) hHeld ?_
              simp only [Act.put, List.setIfInBounds_toArray, List.set_cons_zero, List.set_cons_succ]
              refine heldTake (i := 25) 89 (v := ?_) rfl rfl (by kernel_rfl) (by kernel_rfl) (by kernel_rfl) (fun _ _ _ h => h) (by kernel_rfl) (fun w hSw => (by have q0 := HP.out w hSw; have q2 := HP1.out w hSw; go_simp; try with_reducible rfl)) hHeld ?_
              simp only [Act.put, List.setIfInBounds_toArray, List.set_cons_zero, List.set_cons_succ]
              refine heldTake (i := 26) 90 (v := ?_) rfl rfl (by kernel_rfl) (by kernel_rfl) (by kernel_rfl) (fun _ _ _ h => h) (by kernel_rfl) (fun w hSw => (by have q0 := HP.out w hSw; have q2 := HP1.out w hSw; go_simp; try with_reducible rfl)) hHeld ?_
              simp only [Act.put, List.setIfInBounds_toArray, List.set_cons_zero, List.set_cons_succ]
              refine heldTake (i := 27) 91 (v := ?_) rfl rfl (by kernel_rfl) (by kernel_rfl) (by kernel_rfl) (fun _ _ _ h => h) (by kernel_rfl) (fun w hSw => (by have q0 := HP.out w hSw; have q2 := HP1.out w hSw; go_simp; try with_reducible rfl)) hHeld ?_
              simp only [Act.put, List.setIfInBounds_toArray, List.set_cons_zero, List.set_cons_succ]
              refine heldTake (i := 28) 92 (v := ?_) rfl rfl (by kernel_rfl) (by kernel_rfl) (by kernel_rfl) (fun _ _ _ h => h) (by kernel_rfl) (fun w hSw => (by have q0 := HP.out w hSw; have q2 := HP1.out w hSw; go_simp; try with_reducible rfl)) hHeld ?_
              simp only [Act.put, List.setIfInBounds_toArray, List.set_cons_zero, List.set_cons_succ]
              refine heldTake (i := 29) 93 (v := ?_) rfl rfl (by kernel_rfl) (by kernel_rfl) (by kernel_rfl) (fun _ _ _ h => h) (by kernel_rfl) (fun w hSw => (by have q0 := HP.out w hSw; have q2 := HP1.out w hSw; go_simp; try with_reducible rfl)) hHeld ?_
              simp only [Act.put, List.setIfInBounds_toArray, List.set_cons_zero, List.set_cons_succ]
              refine heldTake (i := 30) 94 (v := ?_) rfl rfl (by kernel_rfl) (by kernel_rfl) (by kernel_rfl) (fun _ _ _ h => h) (by kernel_rfl) (fun w hSw => (by have q0 := HP.out w hSw; have q2 := HP1.out w hSw; go_simp; try with_reducible rfl)) hHeld ?_
              simp only [Act.put, List.setIfInBounds_toArray, List.set_cons_zero, List.set_cons_succ]
              refine heldTake (i := 31) 95 (v := ?_) rfl rfl (by kernel_rfl) (by kernel_rfl) (by kernel_rfl) (fun _ _ _ h => h) (by kernel_rfl) (fun w hSw => (by have q0 := HP.out w hSw; have q2 := HP1.out w hSw; go_simp; try with_reducible rfl)) hHeld ?_
              simp only [Act.put, List.setIfInBounds_toArray, List.set_cons_zero, List.set_cons_succ]
              refine heldTake (i := 32) 96 (v := ?_) rfl rfl (by kernel_rfl) (by kernel_rfl) (by kernel_rfl) (fun _ _ _ h => h) (by kernel_rfl) (fun w hSw => (by have q0 := HP.out w hSw; have q2 := HP1.out w hSw; go_simp; try with_reducible rfl)) hHeld ?_
              simp only [Act.put, List.setIfInBounds_toArray, List.set_cons_zero, List.set_cons_succ]
              refine heldTake (i := 33) 97 (v := ?_) rfl rfl (by kernel_rfl) (by kernel_rfl) (by kernel_rfl) (fun _ _ _ h => h) (by kernel_rfl) (fun w hSw => (by have q0 := HP.out w hSw; have q2 := HP1.out w hSw; go_simp; try with_reducible rfl)) hHeld ?_
              simp only [Act.put, List.setIfInBounds_toArray, List.set_cons_zero, List.set_cons_succ]
              refine heldTake (i := 34) 98 (v := ?_) rfl rfl (by kernel_rfl) (by kernel_rfl) (by kernel_rfl) (fun _ _ _ h => h) (by kernel_rfl) (fun w hSw => (by have q0 := HP.out w hSw; have q2 := HP1.out w hSw; go_simp; try with_reducible rfl)) hHeld ?_
              simp only [Act.put, List.setIfInBounds_toArray, List.set_cons_zero, List.set_cons_succ]
              refine heldTake (i := 36) 100 (v := ?_) rfl rfl (by kernel_rfl) (by kernel_rfl) (by kernel_rfl) (fun _ _ _ h => h) (by kernel_rfl) (fun w hSw => (by have q0 := HP.out w hSw; have q2 := HP1.out w hSw; go_simp; try with_reducible rfl)) hHeld ?_
              simp only [Act.put, List.setIfInBounds_toArray, List.set_cons_zero, List.set_cons_succ]
              refine heldOne (i := 35) rfl (by kernel_rfl) (fun K hK => ?_)
              go_simp
              go_wp2_with ((go_at_call 15; refine Calls.mono (HC15.out _ hHeld) ?_; rintro e w8 ⟨v8, rfl, ho8, hF8⟩; have hHeld2 : Fr (fun _ => False) w7 w8 := hHeld.trans hF8; have HH8 : Hd (Calls Tryd.prog 23 #[v8, vI (c : Int)] w8 fun e w' => e = .returned (.bool true) ∧ w' = w8) := HHS.out w8 v8 ho8.ia; clear ho8 hF8 hHeld))
              refine hK.out _ _ hHeld2 ?_
              clear hK K
              have hHeld := hHeld2
              clear hHeld2
              refine heldOne (i := 37) rfl (by kernel_rfl) (fun K hK => ?_)
              go_simp
              go_wp2_with ((go_at_call 23; refine Calls.mono HH8.out ?_; rintro e w9 ⟨rfl, rfl⟩))
              refine hK.out _ _ hHeld ?_
              clear hK K
              refine heldTake (i := 38) 102 (v := ?_) rfl rfl (by kernel_rfl) (by kernel_rfl) (by kernel_rfl) (fun _ _ _ h => h) (by kernel_rfl) (fun w hSw => (by have q0 := HP.out w hSw; have q2 := HP1.out w hSw; go_simp; try with_reducible rfl)) hHeld ?_
              simp only [Act.put, List.setIfInBounds_toArray, List.set_cons_zero, List.set_cons_succ]
              refine heldTake (i := 39) 103 (v := ?_) rfl rfl (by kernel_rfl) (by kernel_rfl) (by kernel_rfl) (fun _ _ _ h => h) (by kernel_rfl) (fun w hSw => (by have q0 := HP.out w hSw; have q2 := HP1.out w hSw; go_simp; try with_reducible rfl)) hHeld ?_
              simp only [Act.put, List.setIfInBounds_toArray, List.set_cons_zero, List.set_cons_succ]
              refine wpAnyH_done (by kernel_rfl) ?_ _
              clear HC15 HHS HP HH8 HP1
              have HF8 : Hd (Fr (fun _ => False) w7 w9) := hHeld
              clear hHeld
              go_wp2_with fail
              go_roundw
              case measure => simp; omega
              case rel => exact ⟨i + 1, by simp, by omega, HF8.out⟩
        · have d2 : decide ((i : Int) < ((cleX N n of cl c).length : Int)) = false := by simp; omega
          have d2n : ¬ i < (cleX N n of cl c).length := hlti
          have HFb : Hd (Fr (fun _ => False) w7 wr) := HF.out
          clear hlti HF HLD
          go_wp2_with fail
          go_loopw [12] (fun v wx => ∃ i : Nat, v = .int .i64 i ∧ i ≤ (clrX N n of cl c).length ∧ Hd (Fr (fun _ => False) w7 wx)) (fun v _ => match v with | .int _ q => (clrX N n of cl c).length - q.toNat | _ => 0)
          case atStart => exact ⟨0, by simp, Nat.zero_le _, HFb.out⟩
          case round =>
            clear HFb d2 d2n hil
            obtain ⟨i, rfl, hil, HF⟩ := hrel
            by_cases hlti : i < (clrX N n of cl c).length
            · have d2 : decide ((i : Int) < ((clrX N n of cl c).length : Int)) = true := by simp; omega
              obtain ⟨g, eda, hlst⟩ := HLU.out (by omega)
              subst eda
              obtain ⟨x, hx⟩ : ∃ x, (clrX N n of cl c)[i]? = some x := ⟨_, List.getElem?_eq_getElem hlti⟩
              have HNG : Hd (NG n (lwX N of) (cleX N n of cl) (clrX N n of cl)) := HGP.out.toRg.graph HLT.out
              have hxm : x ∈ clrX N n of cl c := List.mem_of_getElem? hx
              have hxn : x < n := (mem_clrX.1 hxm).1
              have hcx : c ∈ cleX N n of cl x := (HNG.out.bk x c hxn HLTC.out).1 hxm
              have hxc : c < x := HNG.out.dn x hxn c hcx
              have HC15 : Hd (∀ W, Fr (fun _ => False) w7 W → Calls Tryd.prog 14 #[.pointer (some ⟨b, 0, none⟩), vI (x : Int)] W fun e w' => ∃ v', e = .returned v' ∧ IOwn w' W.heap.size v' (zL (cleX N n of cl x)) ∧ Fr (fun _ => False) W w') := fun W fW => callees_any x (HGA.out W (HF7.out.1.trans fW)) hxn (by omega) (by omega)
              have HC12 : Hd (∀ W, Fr (fun _ => False) w7 W → Calls Tryd.prog 12 #[.pointer (some ⟨b, 0, none⟩)] W fun e w' => e = .returned (vI (n : Int)) ∧ w' = W) := fun W fW => glen_any W (HGA.out W (HF7.out.1.trans fW)) (by omega)
              have HHS : Hd (∀ W v, IA W v (zL (cleX N n of cl x)) → Calls Tryd.prog 23 #[v, vI (c : Int)] W fun e w' => e = .returned (.bool true) ∧ w' = W) := fun W v hv => by
                have := has_any v (cleX N n of cl x) c W hv (by
                  have := len_le (cleX_rise (N := N) (n := n) (of := of) (cl := cl) x) (fun x hx => (mem_cleX.1 hx).1)
                  omega)
                rw [decide_eq_true hcx] at this
                exact this
              have HP : Hd (∀ W, Fr (fun _ => False) w7 W → W.cell? ⟨g, i, none⟩ = some (vI (x : Nat))) := fun W fW => hlst W fW i x hx
              have i0 : (0 : Int) ≤ i := by omega
              have i1 : (i : Int) < ((clrX N n of cl c).length : Int) := by omega
              have x0 : decide ((x : Int) ≤ (c : Int)) = false := by simp; omega
              have x0n : ¬ x ≤ c := by omega
              have x1 : decide ((x : Int) ≥ (n : Int)) = false := by simp; omega
              have x1' : decide ((n : Int) ≤ (x : Int)) = false := by simp; omega
              have x1n : ¬ n ≤ x := by omega
              have HIX : Hd (i < (clrX N n of cl c).length) := hlti
              have HRS : Hd (∀ j y, j < i → (clrX N n of cl c)[j]? = some y → y < x) := fun j y hj hy => by
                rw [List.getElem?_eq_getElem hlti] at hx
                injection hx with hx
                have hj2 : j < (clrX N n of cl c).length := by omega
                rw [List.getElem?_eq_getElem hj2] at hy
                injection hy with hy
                have := (List.pairwise_iff_getElem.1 (clrX_rise (N := N) (n := n) (of := of) (cl := cl) c)) j i hj2 hlti hj
                rw [hx, hy] at this
                exact this
              have HLS : Hd (Lst w7 g (clrX N n of cl c)) := hlst
              clear hlst hxm hcx hx hlti hxc hxn
              by_cases hi0 : i = 0
              · have z0 : decide ((i : Int) > 0) = false := by simp [hi0]
                have z0' : decide ((0 : Int) < (i : Int)) = false := by simp [hi0]
                have z0n : ¬ 0 < i := by omega
                clear hi0
                go_upto_region 21 with fail
                as_aux_lemma =>
                  refine wp_region_held_drew (S := fun W => Fr (fun _ => False) w7 W) (by kernel_rfl) (HF.out.drew) (fun hHeld => ?_)
                  refine heldTake (i := 0) 110 (v := ?_) rfl rfl (by kernel_rfl) (by kernel_rfl) (by kernel_rfl) (fun _ _ _ h => h) (by kernel_rfl) (fun w hSw => (by have q0 := HP.out w hSw; go_simp; try with_reducible rfl)) hHeld ?_
                  simp only [Act.put, List.setIfInBounds_toArray, List.set_cons_zero, List.set_cons_succ]
                  refine heldTake (i := 1) 111 (v := ?_) rfl rfl (by kernel_rfl) (by kernel_rfl) (by kernel_rfl) (fun _ _ _ h => h) (by kernel_rfl) (fun w hSw => (by have q0 := HP.out w hSw; go_simp; try with_reducible rfl)) hHeld ?_
                  simp only [Act.put, List.setIfInBounds_toArray, List.set_cons_zero, List.set_cons_succ]
                  refine heldTake (i := 2) 112 (v := ?_) rfl rfl (by kernel_rfl) (by kernel_rfl) (by kernel_rfl) (fun _ _ _ h => h) (by kernel_rfl) (fun w hSw => (by have q0 := HP.out w hSw; go_simp; try with_reducible rfl)) hHeld ?_
                  simp only [Act.put, List.setIfInBounds_toArray, List.set_cons_zero, List.set_cons_succ]
                  refine heldTake (i := 3) 113 (v := ?_) rfl rfl (by kernel_rfl) (by kernel_rfl) (by kernel_rfl) (fun _ _ _ h => h) (by kernel_rfl) (fun w hSw => (by have q0 := HP.out w hSw; go_simp; try with_reducible rfl)) hHeld ?_
                  simp only [Act.put, List.setIfInBounds_toArray, List.set_cons_zero, List.set_cons_succ]
                  refine heldTake (i := 4) 114 (v := ?_) rfl rfl (by kernel_rfl) (by kernel_rfl) (by kernel_rfl) (fun _ _ _ h => h) (by kernel_rfl) (fun w hSw => (by have q0 := HP.out w hSw; go_simp; try with_reducible rfl)) hHeld ?_
                  simp only [Act.put, List.setIfInBounds_toArray, List.set_cons_zero, List.set_cons_succ]
                  refine heldTake (i := 5) 115 (v := ?_) rfl rfl (by kernel_rfl) (by kernel_rfl) (by kernel_rfl) (fun _ _ _ h => h) (by kernel_rfl) (fun w hSw => (by have q0 := HP.out w hSw; go_simp; try with_reducible rfl)) hHeld ?_
                  simp only [Act.put, List.setIfInBounds_toArray, List.set_cons_zero, List.set_cons_succ]
                  refine heldTake (i := 6) 116 (v := ?_) rfl rfl (by kernel_rfl) (by kernel_rfl) (by kernel_rfl) (fun _ _ _ h => h) (by kernel_rfl) (fun w hSw => (by have q0 := HP.out w hSw; go_simp; try with_reducible rfl)) hHeld ?_
                  simp only [Act.put, List.setIfInBounds_toArray, List.set_cons_zero, List.set_cons_succ]
                  refine heldTake (i := 7) 117 (v := ?_) rfl rfl (by kernel_rfl) (by kernel_rfl) (by kernel_rfl) (fun _ _ _ h => h) (by kernel_rfl) (fun w hSw => (by have q0 := HP.out w hSw; go_simp; try with_reducible rfl)) hHeld ?_
                  simp only [Act.put, List.setIfInBounds_toArray, List.set_cons_zero, List.set_cons_succ]
                  refine heldTake (i := 8) 118 (v := ?_) rfl rfl (by kernel_rfl) (by kernel_rfl) (by kernel_rfl) (fun _ _ _ h => h) (by kernel_rfl) (fun w hSw => (by have q0 := HP.out w hSw; go_simp; try with_reducible rfl)) hHeld ?_
                  simp only [Act.put, List.setIfInBounds_toArray, List.set_cons_zero, List.set_cons_succ]
                  refine heldTake (i := 9) 119 (v := ?_) rfl rfl (by kernel_rfl) (by kernel_rfl) (by kernel_rfl) (fun _ _ _ h => h) (by kernel_rfl) (fun w hSw => (by have q0 := HP.out w hSw; go_simp; try with_reducible rfl)) hHeld ?_
                  simp only [Act.put, List.setIfInBounds_toArray, List.set_cons_zero, List.set_cons_succ]
                  refine heldTake (i := 10) 120 (v := ?_) rfl rfl (by kernel_rfl) (by kernel_rfl) (by kernel_rfl) (fun _ _ _ h => h) (by kernel_rfl) (fun w hSw => (by have q0 := HP.out w hSw; go_simp; try with_reducible rfl)) hHeld ?_
                  simp only [Act.put, List.setIfInBounds_toArray, List.set_cons_zero, List.set_cons_succ]
                  refine heldTake (i := 11) 121 (v := ?_) rfl rfl (by kernel_rfl) (by kernel_rfl) (by kernel_rfl) (fun _ _ _ h => h) (by kernel_rfl) (fun w hSw => (by have q0 := HP.out w hSw; go_simp; try with_reducible rfl)) hHeld ?_
                  simp only [Act.put, List.setIfInBounds_toArray, List.set_cons_zero, List.set_cons_succ]
                  refine heldOne (i := 12) rfl (by kernel_rfl) (fun K hK => ?_)
                  go_simp
                  go_wp2_with ((go_at_call 12; refine Calls.mono (HC12.out _ hHeld) ?_; rintro e w8 ⟨rfl, rfl⟩))
                  refine hK.out _ _ hHeld ?_
                  clear hK K
                  refine heldTake (i := 13) 123 (v := ?_) rfl rfl (by kernel_rfl) (by kernel_rfl) (by kernel_rfl) (fun _ _ _ h => h) (by kernel_rfl) (fun w hSw => (by have q0 := HP.out w hSw; go_simp; try with_reducible rfl)) hHeld ?_
                  simp only [Act.put, List.setIfInBounds_toArray, List.set_cons_zero, List.set_cons_succ]
                  refine heldTake (i := 14) 124 (v := ?_) rfl rfl (by kernel_rfl) (by kernel_rfl) (by kernel_rfl) (fun _ _ _ h => h) (by kernel_rfl) (fun w hSw => (by have q0 := HP.out w hSw; go_simp; try with_reducible rfl)) hHeld ?_
                  simp only [Act.put, List.setIfInBounds_toArray, List.set_cons_zero, List.set_cons_succ]
                  refine heldTake (i := 15) 125 (v := ?_) rfl rfl (by kernel_rfl) (by kernel_rfl) (by kernel_rfl) (fun _ _ _ h => h) (by kernel_rfl) (fun w hSw => (by have q0 := HP.out w hSw; go_simp; try with_reducible rfl)) hHeld ?_
                  simp only [Act.put, List.setIfInBounds_toArray, List.set_cons_zero, List.set_cons_succ]
                  refine heldTake (i := 16) 126 (v := ?_) rfl rfl (by kernel_rfl) (by kernel_rfl) (by kernel_rfl) (fun _ _ _ h => h) (by kernel_rfl) (fun w hSw => (by have q0 := HP.out w hSw; go_simp; try with_reducible rfl)) hHeld ?_
                  simp only [Act.put, List.setIfInBounds_toArray, List.set_cons_zero, List.set_cons_succ]
                  refine heldTake (i := 17) 127 (v := ?_) rfl rfl (by kernel_rfl) (by kernel_rfl) (by kernel_rfl) (fun _ _ _ h => h) (by kernel_rfl) (fun w hSw => (by have q0 := HP.out w hSw; go_simp; try with_reducible rfl)) hHeld ?_
                  simp only [Act.put, List.setIfInBounds_toArray, List.set_cons_zero, List.set_cons_succ]
                  refine heldTake (i := 18) 128 (v := ?_) rfl rfl (by kernel_rfl) (by kernel_rfl) (by kernel_rfl) (fun _ _ _ h => h) (by kernel_rfl) (fun w hSw => (by have q0 := HP.out w hSw; go_simp; try with_reducible rfl)) hHeld ?_
                  simp only [Act.put, List.setIfInBounds_toArray, List.set_cons_zero, List.set_cons_succ]
                  refine heldPass (i := 19) 129 rfl rfl (by kernel_rfl) (by kernel_rfl) (by kernel_rfl) (fun _ _ _ h => h) (by kernel_rfl) hHeld ?_
                  simp only [Act.put, List.setIfInBounds_toArray, List.set_cons_zero, List.set_cons_succ]
                  refine heldPass (i := 20) 130 rfl rfl (by kernel_rfl) (by kernel_rfl) (by kernel_rfl) (fun _ _ _ h => h) (by kernel_rfl) hHeld ?_
                  simp only [Act.put, List.setIfInBounds_toArray, List.set_cons_zero, List.set_cons_succ]
                  refine heldPass (i := 21) 131 rfl rfl (by kernel_rfl) (by kernel_rfl) (by kernel_rfl) (fun _ _ _ h => h) (by kernel_rfl) hHeld ?_
                  simp only [Act.put, List.setIfInBounds_toArray, List.set_cons_zero, List.set_cons_succ]
                  refine heldPass (i := 22) 132 rfl rfl (by kernel_rfl) (by kernel_rfl) (by kernel_rfl) (fun _ _ _ h => h) (by kernel_rfl) hHeld ?_
                  simp only [Act.put, List.setIfInBounds_toArray, List.set_cons_zero, List.set_cons_succ]
                  refine heldPass (i := 23) 133 rfl rfl (by kernel_rfl) (by kernel_rfl) (by kernel_rfl) (fun _ _ _ h => h) (by kernel_rfl) hHeld ?_
                  simp only [Act.put, List.setIfInBounds_toArray, List.set_cons_zero, List.set_cons_succ]
                  refine heldPass (i := 24) 134 rfl rfl (by kernel_rfl) (by kernel_rfl) (by kernel_rfl) (fun _ _ _ h => h) (by kernel_rfl) hHeld ?_
                  simp only [Act.put, List.setIfInBounds_toArray, List.set_cons_zero, List.set_cons_succ]
                  refine heldPass (i := 25) 135 rfl rfl (by kernel_rfl) (by kernel_rfl) (by kernel_rfl) (fun _ _ _ h => h) (by kernel_rfl) hHeld ?_
                  simp only [Act.put, List.setIfInBounds_toArray, List.set_cons_zero, List.set_cons_succ]
                  refine heldPass (i := 26) 136 rfl rfl (by kernel_rfl) (by kernel_rfl) (by kernel_rfl) (fun _ _ _ h => h) (by kernel_rfl) hHeld ?_
                  simp only [Act.put, List.setIfInBounds_toArray, List.set_cons_zero, List.set_cons_succ]
                  refine heldPass (i := 27) 137 rfl rfl (by kernel_rfl) (by kernel_rfl) (by kernel_rfl) (fun _ _ _ h => h) (by kernel_rfl) hHeld ?_
                  simp only [Act.put, List.setIfInBounds_toArray, List.set_cons_zero, List.set_cons_succ]
                  refine heldPass (i := 28) 138 rfl rfl (by kernel_rfl) (by kernel_rfl) (by kernel_rfl) (fun _ _ _ h => h) (by kernel_rfl) hHeld ?_
                  simp only [Act.put, List.setIfInBounds_toArray, List.set_cons_zero, List.set_cons_succ]
                  refine heldTake (i := 29) 139 (v := ?_) rfl rfl (by kernel_rfl) (by kernel_rfl) (by kernel_rfl) (fun _ _ _ h => h) (by kernel_rfl) (fun w hSw => (by have q0 := HP.out w hSw; go_simp; try with_reducible rfl)) hHeld ?_
                  simp only [Act.put, List.setIfInBounds_toArray, List.set_cons_zero, List.set_cons_succ]
                  refine heldTake (i := 30) 140 (v := ?_) rfl rfl (by kernel_rfl) (by kernel_rfl) (by kernel_rfl) (fun _ _ _ h => h) (by kernel_rfl) (fun w hSw => (by have q0 := HP.out w hSw; go_simp; try with_reducible rfl)) hHeld ?_
                  simp only [Act.put, List.setIfInBounds_toArray, List.set_cons_zero, List.set_cons_succ]
                  refine heldTake (i := 31) 141 (v := ?_) rfl rfl (by kernel_rfl) (by kernel_rfl) (by kernel_rfl) (fun _ _ _ h => h) (by kernel_rfl) (fun w hSw => (by have q0 := HP.out w hSw; go_simp; try with_reducible rfl)) hHeld ?_
                  simp only [Act.put, List.setIfInBounds_toArray, List.set_cons_zero, List.set_cons_succ]
                  refine heldTake (i := 32) 142 (v := ?_) rfl rfl (by kernel_rfl) (by kernel_rfl) (by kernel_rfl) (fun _ _ _ h => h) (by kernel_rfl) (fun w hSw => (by have q0 := HP.out w hSw; go_simp; try with_reducible rfl)) hHeld ?_
                  simp only [Act.put, List.setIfInBounds_toArray, List.set_cons_zero, List.set_cons_succ]
                  refine heldTake (i := 33) 143 (v := ?_) rfl rfl (by kernel_rfl) (by kernel_rfl) (by kernel_rfl) (fun _ _ _ h => h) (by kernel_rfl) (fun w hSw => (by have q0 := HP.out w hSw; go_simp; try with_reducible rfl)) hHeld ?_
                  simp only [Act.put, List.setIfInBounds_toArray, List.set_cons_zero, List.set_cons_succ]
                  refine heldTake (i := 34) 144 (v := ?_) rfl rfl (by kernel_rfl) (by kernel_rfl) (by kernel_rfl) (fun _ _ _ h => h) (by kernel_rfl) (fun w hSw => (by have q0 := HP.out w hSw; go_simp; try with_reducible rfl)) hHeld ?_
                  simp only [Act.put, List.setIfInBounds_toArray, List.set_cons_zero, List.set_cons_succ]
                  refine heldTake (i := 35) 145 (v := ?_) rfl rfl (by kernel_rfl) (by kernel_rfl) (by kernel_rfl) (fun _ _ _ h => h) (by kernel_rfl) (fun w hSw => (by have q0 := HP.out w hSw; go_simp; try with_reducible rfl)) hHeld ?_
                  simp only [Act.put, List.setIfInBounds_toArray, List.set_cons_zero, List.set_cons_succ]
                  refine heldTake (i := 36) 146 (v := ?_) rfl rfl (by kernel_rfl) (by kernel_rfl) (by kernel_rfl) (fun _ _ _ h => h) (by kernel_rfl) (fun w hSw => (by have q0 := HP.out w hSw; go_simp; try with_reducible rfl)) hHeld ?_
                  simp only [Act.put, List.setIfInBounds_toArray, List.set_cons_zero, List.set_cons_succ]
                  refine heldTake (i := 38) 148 (v := ?_) rfl rfl (by kernel_rfl) (by kernel_rfl) (by kernel_rfl) (fun _ _ _ h => h) (by kernel_rfl) (fun w hSw => (by have q0 := HP.out w hSw; go_simp; try with_reducible rfl)) hHeld ?_
                  simp only [Act.put, List.setIfInBounds_toArray, List.set_cons_zero, List.set_cons_succ]
                  refine heldOne (i := 37) rfl (by kernel_rfl) (fun K hK => ?_)
                  go_simp
                  go_wp2_with ((go_at_call 14; refine Calls.mono (HC15.out _ hHeld) ?_; rintro e w8 ⟨v8, rfl, ho8, hF8⟩; have hHeld2 : Fr (fun _ => False) w7 w8 := hHeld.trans hF8; have HH8 : Hd (Calls Tryd.prog 23 #[v8, vI (c : Int)] w8 fun e w' => e = .returned (.bool true) ∧ w' = w8) := HHS.out w8 v8 ho8.ia; clear ho8 hF8 hHeld))
                  refine hK.out _ _ hHeld2 ?_
                  clear hK K
                  have hHeld := hHeld2
                  clear hHeld2
                  refine heldOne (i := 39) rfl (by kernel_rfl) (fun K hK => ?_)
                  go_simp
                  go_wp2_with ((go_at_call 23; refine Calls.mono HH8.out ?_; rintro e w9 ⟨rfl, rfl⟩))
                  refine hK.out _ _ hHeld ?_
                  clear hK K
                  refine heldTake (i := 40) 150 (v := ?_) rfl rfl (by kernel_rfl) (by kernel_rfl) (by kernel_rfl) (fun _ _ _ h => h) (by kernel_rfl) (fun w hSw => (by have q0 := HP.out w hSw; go_simp; try with_reducible rfl)) hHeld ?_
                  simp only [Act.put, List.setIfInBounds_toArray, List.set_cons_zero, List.set_cons_succ]
                  refine heldTake (i := 41) 151 (v := ?_) rfl rfl (by kernel_rfl) (by kernel_rfl) (by kernel_rfl) (fun _ _ _ h => h) (by kernel_rfl) (fun w hSw => (by have q0 := HP.out w hSw; go_simp; try with_reducible rfl)) hHeld ?_
                  simp only [Act.put, List.setIfInBounds_toArray, List.set_cons_zero, List.set_cons_succ]
                  refine wpAnyH_done (by kernel_rfl) ?_ _
                  clear HC15 HHS HP HH8 HC12
                  have HF8 : Hd (Fr (fun _ => False) w7 w9) := hHeld
                  clear hHeld
                  go_wp2_with fail
                  go_roundw
                  case measure => simp; omega
                  case rel => exact ⟨i + 1, by simp, by omega, HF8.out⟩
              · skip
                have z0 : decide ((i : Int) > 0) = true := by simp; omega
                have z0' : decide ((0 : Int) < (i : Int)) = true := by simp; omega
                have z0n : 0 < i := by omega
                obtain ⟨M, hM⟩ : ∃ M : Nat, M = i - 1 := ⟨_, rfl⟩
                obtain ⟨y, hy⟩ : ∃ y, (clrX N n of cl c)[M]? = some y := ⟨_, List.getElem?_eq_getElem (by have := HIX.out; omega)⟩
                have hyx : y < x := HRS.out M y (by omega) hy
                have qM : IntKind.i64.wrap ((i : Int) - 1) = (M : Int) := by rw [wrap_small _ (by omega) (by omega)]; omega
                have qM' : (i : Int) - 1 = (M : Int) := by omega
                have qMw : IntKind.i64.wrap (M : Int) = (M : Int) := wrap_small _ (by omega) (by omega)
                have M0 : (0 : Int) ≤ M := by omega
                have M1 : (M : Int) < ((clrX N n of cl c).length : Int) := by have := HIX.out; omega
                have y1 : decide ((y : Int) ≥ (x : Int)) = false := by simp; omega
                have y1' : decide ((x : Int) ≤ (y : Int)) = false := by simp; omega
                have y1n : ¬ x ≤ y := by omega
                have HP1 : Hd (∀ W, Fr (fun _ => False) w7 W → W.cell? ⟨g, M, none⟩ = some (vI (y : Nat))) := fun W fW => HLS.out W fW M y hy
                clear hi0 hy hyx hM
                go_upto_region 21 with fail
                as_aux_lemma =>
                  refine wp_region_held_drew (S := fun W => Fr (fun _ => False) w7 W) (by kernel_rfl) (HF.out.drew) (fun hHeld => ?_)
                  refine heldTake (i := 0) 110 (v := ?_) rfl rfl (by kernel_rfl) (by kernel_rfl) (by kernel_rfl) (fun _ _ _ h => h) (by kernel_rfl) (fun w hSw => (by have q0 := HP.out w hSw; have q2 := HP1.out w hSw; go_simp; try with_reducible rfl)) hHeld ?_
                  simp only [Act.put, List.setIfInBounds_toArray, List.set_cons_zero, List.set_cons_succ]
                  refine heldTake (i := 1) 111 (v := ?_) rfl rfl (by kernel_rfl) (by kernel_rfl) (by kernel_rfl) (fun _ _ _ h => h) (by kernel_rfl) (fun w hSw => (by have q0 := HP.out w hSw; have q2 := HP1.out w hSw; go_simp; try with_reducible rfl)) hHeld ?_
                  simp only [Act.put, List.setIfInBounds_toArray, List.set_cons_zero, List.set_cons_succ]
                  refine heldTake (i := 2) 112 (v := ?_) rfl rfl (by kernel_rfl) (by kernel_rfl) (by kernel_rfl) (fun _ _ _ h => h) (by kernel_rfl) (fun w hSw => (by have q0 := HP.out w hSw; have q2 := HP1.out w hSw; go_simp; try with_reducible rfl)) hHeld ?_
                  simp only [Act.put, List.setIfInBounds_toArray, List.set_cons_zero, List.set_cons_succ]
                  refine heldTake (i := 3) 113 (v := ?_) rfl rfl (by kernel_rfl) (by kernel_rfl) (by kernel_rfl) (fun _ _ _ h => h) (by kernel_rfl) (fun w hSw => (by have q0 := HP.out w hSw; have q2 := HP1.out w hSw; go_simp; try with_reducible rfl)) hHeld ?_
                  simp only [Act.put, List.setIfInBounds_toArray, List.set_cons_zero, List.set_cons_succ]
                  refine heldTake (i := 4) 114 (v := ?_) rfl rfl (by kernel_rfl) (by kernel_rfl) (by kernel_rfl) (fun _ _ _ h => h) (by kernel_rfl) (fun w hSw => (by have q0 := HP.out w hSw; have q2 := HP1.out w hSw; go_simp; try with_reducible rfl)) hHeld ?_
                  simp only [Act.put, List.setIfInBounds_toArray, List.set_cons_zero, List.set_cons_succ]
                  refine heldTake (i := 5) 115 (v := ?_) rfl rfl (by kernel_rfl) (by kernel_rfl) (by kernel_rfl) (fun _ _ _ h => h) (by kernel_rfl) (fun w hSw => (by have q0 := HP.out w hSw; have q2 := HP1.out w hSw; go_simp; try with_reducible rfl)) hHeld ?_
                  simp only [Act.put, List.setIfInBounds_toArray, List.set_cons_zero, List.set_cons_succ]
                  refine heldTake (i := 6) 116 (v := ?_) rfl rfl (by kernel_rfl) (by kernel_rfl) (by kernel_rfl) (fun _ _ _ h => h) (by kernel_rfl) (fun w hSw => (by have q0 := HP.out w hSw; have q2 := HP1.out w hSw; go_simp; try with_reducible rfl)) hHeld ?_
                  simp only [Act.put, List.setIfInBounds_toArray, List.set_cons_zero, List.set_cons_succ]
                  refine heldTake (i := 7) 117 (v := ?_) rfl rfl (by kernel_rfl) (by kernel_rfl) (by kernel_rfl) (fun _ _ _ h => h) (by kernel_rfl) (fun w hSw => (by have q0 := HP.out w hSw; have q2 := HP1.out w hSw; go_simp; try with_reducible rfl)) hHeld ?_
                  simp only [Act.put, List.setIfInBounds_toArray, List.set_cons_zero, List.set_cons_succ]
                  refine heldTake (i := 8) 118 (v := ?_) rfl rfl (by kernel_rfl) (by kernel_rfl) (by kernel_rfl) (fun _ _ _ h => h) (by kernel_rfl) (fun w hSw => (by have q0 := HP.out w hSw; have q2 := HP1.out w hSw; go_simp; try with_reducible rfl)) hHeld ?_
                  simp only [Act.put, List.setIfInBounds_toArray, List.set_cons_zero, List.set_cons_succ]
                  refine heldTake (i := 9) 119 (v := ?_) rfl rfl (by kernel_rfl) (by kernel_rfl) (by kernel_rfl) (fun _ _ _ h => h) (by kernel_rfl) (fun w hSw => (by have q0 := HP.out w hSw; have q2 := HP1.out w hSw; go_simp; try with_reducible rfl)) hHeld ?_
                  simp only [Act.put, List.setIfInBounds_toArray, List.set_cons_zero, List.set_cons_succ]
                  refine heldTake (i := 10) 120 (v := ?_) rfl rfl (by kernel_rfl) (by kernel_rfl) (by kernel_rfl) (fun _ _ _ h => h) (by kernel_rfl) (fun w hSw => (by have q0 := HP.out w hSw; have q2 := HP1.out w hSw; go_simp; try with_reducible rfl)) hHeld ?_
                  simp only [Act.put, List.setIfInBounds_toArray, List.set_cons_zero, List.set_cons_succ]
                  refine heldTake (i := 11) 121 (v := ?_) rfl rfl (by kernel_rfl) (by kernel_rfl) (by kernel_rfl) (fun _ _ _ h => h) (by kernel_rfl) (fun w hSw => (by have q0 := HP.out w hSw; have q2 := HP1.out w hSw; go_simp; try with_reducible rfl)) hHeld ?_
                  simp only [Act.put, List.setIfInBounds_toArray, List.set_cons_zero, List.set_cons_succ]
                  refine heldOne (i := 12) rfl (by kernel_rfl) (fun K hK => ?_)
                  go_simp
                  go_wp2_with ((go_at_call 12; refine Calls.mono (HC12.out _ hHeld) ?_; rintro e w8 ⟨rfl, rfl⟩))
                  refine hK.out _ _ hHeld ?_
                  clear hK K
                  refine heldTake (i := 13) 123 (v := ?_) rfl rfl (by kernel_rfl) (by kernel_rfl) (by kernel_rfl) (fun _ _ _ h => h) (by kernel_rfl) (fun w hSw => (by have q0 := HP.out w hSw; have q2 := HP1.out w hSw; go_simp; try with_reducible rfl)) hHeld ?_
                  simp only [Act.put, List.setIfInBounds_toArray, List.set_cons_zero, List.set_cons_succ]
                  refine heldTake (i := 14) 124 (v := ?_) rfl rfl (by kernel_rfl) (by kernel_rfl) (by kernel_rfl) (fun _ _ _ h => h) (by kernel_rfl) (fun w hSw => (by have q0 := HP.out w hSw; have q2 := HP1.out w hSw; go_simp; try with_reducible rfl)) hHeld ?_
                  simp only [Act.put, List.setIfInBounds_toArray, List.set_cons_zero, List.set_cons_succ]
                  refine heldTake (i := 15) 125 (v := ?_) rfl rfl (by kernel_rfl) (by kernel_rfl) (by kernel_rfl) (fun _ _ _ h => h) (by kernel_rfl) (fun w hSw => (by have q0 := HP.out w hSw; have q2 := HP1.out w hSw; go_simp; try with_reducible rfl)) hHeld ?_
                  simp only [Act.put, List.setIfInBounds_toArray, List.set_cons_zero, List.set_cons_succ]
                  refine heldTake (i := 16) 126 (v := ?_) rfl rfl (by kernel_rfl) (by kernel_rfl) (by kernel_rfl) (fun _ _ _ h => h) (by kernel_rfl) (fun w hSw => (by have q0 := HP.out w hSw; have q2 := HP1.out w hSw; go_simp; try with_reducible rfl)) hHeld ?_
                  simp only [Act.put, List.setIfInBounds_toArray, List.set_cons_zero, List.set_cons_succ]
                  refine heldTake (i := 17) 127 (v := ?_) rfl rfl (by kernel_rfl) (by kernel_rfl) (by kernel_rfl) (fun _ _ _ h => h) (by kernel_rfl) (fun w hSw => (by have q0 := HP.out w hSw; have q2 := HP1.out w hSw; go_simp; try with_reducible rfl)) hHeld ?_
                  simp only [Act.put, List.setIfInBounds_toArray, List.set_cons_zero, List.set_cons_succ]
                  refine heldTake (i := 18) 128 (v := ?_) rfl rfl (by kernel_rfl) (by kernel_rfl) (by kernel_rfl) (fun _ _ _ h => h) (by kernel_rfl) (fun w hSw => (by have q0 := HP.out w hSw; have q2 := HP1.out w hSw; go_simp; try with_reducible rfl)) hHeld ?_
                  simp only [Act.put, List.setIfInBounds_toArray, List.set_cons_zero, List.set_cons_succ]
                  refine heldTake (i := 19) 129 (v := ?_) rfl rfl (by kernel_rfl) (by kernel_rfl) (by kernel_rfl) (fun _ _ _ h => h) (by kernel_rfl) (fun w hSw => (by have q0 := HP.out w hSw; have q2 := HP1.out w hSw; go_simp; try with_reducible rfl)) hHeld ?_
                  simp only [Act.put, List.setIfInBounds_toArray, List.set_cons_zero, List.set_cons_succ]
                  refine heldTake (i := 20) 130 (v := ?_) rfl rfl (by kernel_rfl) (by kernel_rfl) (by kernel_rfl) (fun _ _ _ h => h) (by kernel_rfl) (fun w hSw => (by have q0 := HP.out w hSw; have q2 := HP1.out w hSw; go_simp; try with_reducible rfl)) hHeld ?_
                  simp only [Act.put, List.setIfInBounds_toArray, List.set_cons_zero, List.set_cons_succ]
                  refine heldTake (i := 21) 131 (v := ?_) rfl rfl (by kernel_rfl) (by kernel_rfl) (by kernel_rfl) (fun _ _ _ h => h) (by kernel_rfl) (fun w hSw => (by have q0 := HP.out w hSw; have q2 := HP1.out w hSw; go_simp; try with_reducible rfl)) hHeld ?_
                  simp only [Act.put, List.setIfInBounds_toArray, List.set_cons_zero, List.set_cons_succ]
                  refine heldTake (i := 22) 132 (v := ?_) rfl rfl (by kernel_rfl) (by kernel_rfl) (by kernel_rfl) (fun _ _ _ h => h) (by kernel_rfl) (fun w hSw => (by have q0 := HP.out w hSw; have q2 := HP1.out w hSw; go_simp; try with_reducible rfl)) hHeld ?_
                  simp only [Act.put, List.setIfInBounds_toArray, List.set_cons_zero, List.set_cons_succ]
                  refine heldTake (i := 23) 133 (v := ?_) rfl rfl (by kernel_rfl) (by kernel_rfl) (by kernel_rfl) (fun _ _ _ h => h) (by kernel_rfl) (fun w hSw => (by have q0 := HP.out w hSw; have q2 := HP1.out w hSw; go_simp; try with_reducible rfl)) hHeld ?_
                  simp only [Act.put, List.setIfInBounds_toArray, List.set_cons_zero, List.set_cons_succ]
                  refine heldTake (i := 24) 134 (v := ?_) rfl rfl (by kernel_rfl) (by kernel_rfl) (by kernel_rfl) (fun _ _ _ h => h) (by kernel_rfl) (fun w hSw => (by have q0 := HP.out w hSw; have q2 := HP1.out w hSw; go_simp; try with_reducible rfl)) hHeld ?_
                  simp only [Act.put, List.setIfInBounds_toArray, List.set_cons_zero, List.set_cons_succ]
                  refine heldTake (i := 25) 135 (v := ?_) rfl rfl (by kernel_rfl) (by kernel_rfl) (by kernel_rfl) (fun _ _ _ h => h) (by kernel_rfl) (fun w hSw => (by have q0 := HP.out w hSw; have q2 := HP1.out w hSw; go_simp; try with_reducible rfl)) hHeld ?_
                  simp only [Act.put, List.setIfInBounds_toArray, List.set_cons_zero, List.set_cons_succ]
                  refine heldTake (i := 26) 136 (v := ?_) rfl rfl (by kernel_rfl) (by kernel_rfl) (by kernel_rfl) (fun _ _ _ h => h) (by kernel_rfl) (fun w hSw => (by have q0 := HP.out w hSw; have q2 := HP1.out w hSw; go_simp; try with_reducible rfl)) hHeld ?_
                  simp only [Act.put, List.setIfInBounds_toArray, List.set_cons_zero, List.set_cons_succ]
                  refine heldTake (i := 27) 137 (v := ?_) rfl rfl (by kernel_rfl) (by kernel_rfl) (by kernel_rfl) (fun _ _ _ h => h) (by kernel_rfl) (fun w hSw => (by have q0 := HP.out w hSw; have q2 := HP1.out w hSw; go_simp; try with_reducible rfl)) hHeld ?_
                  simp only [Act.put, List.setIfInBounds_toArray, List.set_cons_zero, List.set_cons_succ]
                  refine heldTake (i := 28) 138 (v := ?_) rfl rfl (by kernel_rfl) (by kernel_rfl) (by kernel_rfl) (fun _ _ _ h => h) (by kernel_rfl) (fun w hSw => (by have q0 := HP.out w hSw; have q2 := HP1.out w hSw; go_simp; try with_reducible rfl)) hHeld ?_
                  simp only [Act.put, List.setIfInBounds_toArray, List.set_cons_zero, List.set_cons_succ]
                  refine heldTake (i := 29) 139 (v := ?_) rfl rfl (by kernel_rfl) (by kernel_rfl) (by kernel_rfl) (fun _ _ _ h => h) (by kernel_rfl) (fun w hSw => (by have q0 := HP.out w hSw; have q2 := HP1.out w hSw; go_simp; try with_reducible rfl)) hHeld ?_
                  simp only [Act.put, List.setIfInBounds_toArray, List.set_cons_zero, List.set_cons_succ]
                  refine heldTake (i := 30) 140 (v := ?_) rfl rfl (by kernel_rfl) (by kernel_rfl) (by kernel_rfl) (fun _ _ _ h => h) (by kernel_rfl) (fun w hSw => (by have q0 := HP.out w hSw; have q2 := HP1.out w hSw; go_simp; try with_reducible rfl)) hHeld ?_
                  simp only [Act.put, List.setIfInBounds_toArray, List.set_cons_zero, List.set_cons_succ]
                  refine heldTake (i := 31) 141 (v := ?_) rfl rfl (by kernel_rfl) (by kernel_rfl) (by kernel_rfl) (fun _ _ _ h => h) (by kernel_rfl) (fun w hSw => (by have q0 := HP.out w hSw; have q2 := HP1.out w hSw; go_simp; try with_reducible rfl)) hHeld ?_
                  simp only [Act.put, List.setIfInBounds_toArray, List.set_cons_zero, List.set_cons_succ]
                  refine heldTake (i := 32) 142 (v := ?_) rfl rfl (by kernel_rfl) (by kernel_rfl) (by kernel_rfl) (fun _ _ _ h => h) (by kernel_rfl) (fun w hSw => (by have q0 := HP.out w hSw; have q2 := HP1.out w hSw; go_simp; try with_reducible rfl)) hHeld ?_
                  simp only [Act.put, List.setIfInBounds_toArray, List.set_cons_zero, List.set_cons_succ]
                  refine heldTake (i := 33) 143 (v := ?_) rfl rfl (by kernel_rfl) (by kernel_rfl) (by kernel_rfl) (fun _ _ _ h => h) (by kernel_rfl) (fun w hSw => (by have q0 := HP.out w hSw; have q2 := HP1.out w hSw; go_simp; try with_reducible rfl)) hHeld ?_
                  simp only [Act.put, List.setIfInBounds_toArray, List.set_cons_zero, List.set_cons_succ]
                  refine heldTake (i := 34) 144 (v := ?_) rfl rfl (by kernel_rfl) (by kernel_rfl) (by kernel_rfl) (fun _ _ _ h => h) (by kernel_rfl) (fun w hSw => (by have q0 := HP.out w hSw; have q2 := HP1.out w hSw; go_simp; try with_reducible rfl)) hHeld ?_
                  simp only [Act.put, List.setIfInBounds_toArray, List.set_cons_zero, List.set_cons_succ]
                  refine heldTake (i := 35) 145 (v := ?_) rfl rfl (by kernel_rfl) (by kernel_rfl) (by kernel_rfl) (fun _ _ _ h => h) (by kernel_rfl) (fun w hSw => (by have q0 := HP.out w hSw; have q2 := HP1.out w hSw; go_simp; try with_reducible rfl)) hHeld ?_
                  simp only [Act.put, List.setIfInBounds_toArray, List.set_cons_zero, List.set_cons_succ]
                  refine heldTake (i := 36) 146 (v := ?_) rfl rfl (by kernel_rfl) (by kernel_rfl) (by kernel_rfl) (fun _ _ _ h => h) (by kernel_rfl) (fun w hSw => (by have q0 := HP.out w hSw; have q2 := HP1.out w hSw; go_simp; try with_reducible rfl)) hHeld ?_
                  simp only [Act.put, List.setIfInBounds_toArray, List.set_cons_zero, List.set_cons_succ]
                  refine heldTake (i := 38) 148 (v := ?_) rfl rfl (by kernel_rfl) (by kernel_rfl) (by kernel_rfl) (fun _ _ _ h => h) (by kernel_rfl) (fun w hSw => (by have q0 := HP.out w hSw; have q2 := HP1.out w hSw; go_simp; try with_reducible rfl)) hHeld ?_
                  simp only [Act.put, List.setIfInBounds_toArray, List.set_cons_zero, List.set_cons_succ]
                  refine heldOne (i := 37) rfl (by kernel_rfl) (fun K hK => ?_)
                  go_simp
                  go_wp2_with ((go_at_call 14; refine Calls.mono (HC15.out _ hHeld) ?_; rintro e w8 ⟨v8, rfl, ho8, hF8⟩; have hHeld2 : Fr (fun _ => False) w7 w8 := hHeld.trans hF8; have HH8 : Hd (Calls Tryd.prog 23 #[v8, vI (c : Int)] w8 fun e w' => e = .returned (.bool true) ∧ w' = w8) := HHS.out w8 v8 ho8.ia; clear ho8 hF8 hHeld))
                  refine hK.out _ _ hHeld2 ?_
                  clear hK K
                  have hHeld := hHeld2
                  clear hHeld2
                  refine heldOne (i := 39) rfl (by kernel_rfl) (fun K hK => ?_)
                  go_simp
                  go_wp2_with ((go_at_call 23; refine Calls.mono HH8.out ?_; rintro e w9 ⟨rfl, rfl⟩))
                  refine hK.out _ _ hHeld ?_
                  clear hK K
                  refine heldTake (i := 40) 150 (v := ?_) rfl rfl (by kernel_rfl) (by kernel_rfl) (by kernel_rfl) (fun _ _ _ h => h) (by kernel_rfl) (fun w hSw => (by have q0 := HP.out w hSw; have q2 := HP1.out w hSw; go_simp; try with_reducible rfl)) hHeld ?_
                  simp only [Act.put, List.setIfInBounds_toArray, List.set_cons_zero, List.set_cons_succ]
                  refine heldTake (i := 41) 151 (v := ?_) rfl rfl (by kernel_rfl) (by kernel_rfl) (by kernel_rfl) (fun _ _ _ h => h) (by kernel_rfl) (fun w hSw => (by have q0 := HP.out w hSw; have q2 := HP1.out w hSw; go_simp; try with_reducible rfl)) hHeld ?_
                  simp only [Act.put, List.setIfInBounds_toArray, List.set_cons_zero, List.set_cons_succ]
                  refine wpAnyH_done (by kernel_rfl) ?_ _
                  clear HC15 HHS HP HH8 HC12 HP1
                  have HF8 : Hd (Fr (fun _ => False) w7 w9) := hHeld
                  clear hHeld
                  go_wp2_with fail
                  go_roundw
                  case measure => simp; omega
                  case rel => exact ⟨i + 1, by simp, by omega, HF8.out⟩
            · have d2 : decide ((i : Int) < ((clrX N n of cl c).length : Int)) = false := by simp; omega
              have d2n : ¬ i < (clrX N n of cl c).length := hlti
              have HFb : Hd (Fr (fun _ => False) wg wr) := HF7.out.1.trans HF.out
              have HMB : Hd (Calls Tryd.prog 11 #[.pointer (some ⟨b, 0, none⟩), vI (c : Int)] wr fun e w' => ∃ v', e = .returned v' ∧ IOwn w' wr.heap.size v' (zL (memX N of c)) ∧ Fr (fun _ => False) wr w') := members_any c (HGA.out wr HFb.out) HLTC.out (by omega) (by omega)
              obtain ⟨mr, hmr, -, -⟩ := HGP.out.toRg.low HLTC.out
              clear hlti HF HLU HF7 hdl hul
              go_wp2_with fail
              refine Calls.mono HMB.out ?_
              rintro e w8 ⟨vo, rfl, hoo, hF8⟩
              obtain ⟨oa, oc, evo, hlo⟩ := lst_of hoo
              subst evo
              have hol : 0 < (memX N of c).length := by rw [hmr]; simp
              have hol2 : (memX N of c).length ≤ 1000000 := by
                have := len_le (memX_rise (N := N) (of := of) c) (fun x hx => (mem_memX.1 hx).1)
                omega
              obtain ⟨og, eoa, hlso⟩ := hlo hol
              subst eoa
              have HPO : Hd (∀ W, Fr (fun _ => False) w8 W → W.cell? ⟨og, 0, none⟩ = some (vI (lwX N of c : Nat))) := fun W fW => hlso W fW 0 _ (by rw [hmr]; rfl)
              have HF8 : Hd (Fr (fun _ => False) wg w8 ∧ Fr (fun _ => False) w8 w8) := ⟨HFb.out.trans hF8, Fr.refl _ _⟩
              clear hoo hlo hlso hmr
              generalize (memX N of c).length = ol at *
              have e0 : ((ol : Int) == 0) = false := by simp; omega
              have e0n : ¬ ol = 0 := by omega
              clear hF8 HMB HFb d2 d2n hil
              go_wp2_with fail
              go_loopw [14] (fun v wx => ∃ d : Nat, v = .int .i64 d ∧ c < d ∧ d ≤ n ∧ Hd (Fr (fun _ => False) w8 wx)) (fun v _ => match v with | .int _ q => n - q.toNat | _ => 0)
              case atStart => exact ⟨c + 1, by simp <;> omega, by omega, by have := HLTC.out; omega, HF8.out.2⟩
              case round =>
                obtain ⟨d, rfl, hcd, hdn, HF⟩ := hrel
                have HLN : Hd (Calls Tryd.prog 12 #[.pointer (some ⟨b, 0, none⟩)] wr fun e w' => e = .returned (vI (n : Int)) ∧ w' = wr) := glen_any wr (HGA.out wr (HF8.out.1.trans HF.out)) (by omega)
                by_cases hlt : d < n
                · have d2 : decide ((d : Int) < (n : Int)) = true := by simp; omega
                  have HCE : Hd (Calls Tryd.prog 14 #[.pointer (some ⟨b, 0, none⟩), vI (d : Int)] wr fun e w' => ∃ v', e = .returned v' ∧ IOwn w' wr.heap.size v' (zL (cleX N n of cl d)) ∧ Fr (fun _ => False) wr w') := callees_any d (HGA.out wr (HF8.out.1.trans HF.out)) hlt (by omega) (by omega)
                  have HLD : Hd (d < n) := hlt
                  obtain ⟨mr, hmr, -, -⟩ := HGP.out.toRg.low hlt
                  have HMR : Hd (memX N of d = lwX N of d :: mr) := hmr
                  have HMN : Hd ((∀ e ∈ cleX N n of cl d, e < c) → lwX N of c ≤ lwX N of d) := HGP.out.mn c d hcd hlt
                  clear hmr
                  go_wp2_with fail
                  refine Calls.mono HLN.out ?_
                  rintro e w9 ⟨rfl, rfl⟩
                  clear HLN hlt
                  go_wp2_with fail
                  refine Calls.mono HCE.out ?_
                  rintro e wa ⟨vk, rfl, hok, hFa⟩
                  obtain ⟨ka, kc, evk, hlk⟩ := lst_of hok
                  subst evk
                  have HFa : Hd (Fr (fun _ => False) w8 wa) := HF.out.trans hFa
                  have HLK : Hd (0 < (cleX N n of cl d).length → ∃ g, ka = some ⟨g, 0, none⟩ ∧ Lst wa g (cleX N n of cl d)) := hlk
                  have HMB : Hd (Calls Tryd.prog 11 #[.pointer (some ⟨b, 0, none⟩), vI (d : Int)] wa fun e w' => ∃ v', e = .returned v' ∧ IOwn w' wa.heap.size v' (zL (memX N of d)) ∧ Fr (fun _ => False) wa w') := members_any d (HGA.out wa (HF8.out.1.trans HFa.out)) HLD.out (by omega) (by omega)
                  have hkl : (cleX N n of cl d).length ≤ 1000000 := by
                    have := len_le (cleX_rise (N := N) (n := n) (of := of) (cl := cl) d) (fun x hx => (mem_cleX.1 hx).1)
                    omega
                  clear hok hFa hlk HCE HF
                  go_wp2_with fail
                  refine Calls.mono HMB.out ?_
                  rintro e wb ⟨vm, rfl, hom, hFb⟩
                  obtain ⟨ma, mc, evm, hlm⟩ := lst_of hom
                  subst evm
                  have hml : 0 < (memX N of d).length := by rw [HMR.out]; simp
                  have hml2 : (memX N of d).length ≤ 1000000 := by
                    have := len_le (memX_rise (N := N) (of := of) d) (fun x hx => (mem_memX.1 hx).1)
                    omega
                  obtain ⟨mg, ema, hlsm⟩ := hlm hml
                  subst ema
                  have HPM : Hd (∀ W, Fr (fun _ => False) wb W → W.cell? ⟨mg, 0, none⟩ = some (vI (lwX N of d : Nat))) := fun W fW => hlsm W fW 0 _ (by rw [HMR.out]; rfl)
                  have HFB : Hd (Fr (fun _ => False) wa wb ∧ Fr (fun _ => False) w8 wb ∧ Fr (fun _ => False) wb wb) := ⟨hFb, HFa.out.trans hFb, Fr.refl _ _⟩
                  have HPO2 : Hd (∀ W, Fr (fun _ => False) wb W → W.cell? ⟨og, 0, none⟩ = some (vI (lwX N of c : Nat))) := fun W fW => HPO.out W (HFB.out.2.1.trans fW)
                  clear hom hlm hlsm HMR HMB HFa hFb
                  generalize (memX N of d).length = ml at *
                  have m0 : ((ml : Int) == 0) = false := by simp; omega
                  have m0n : ¬ ml = 0 := by omega
                  have ml1 : (0 : Int) < (ml : Int) := by omega
                  have ol1 : (0 : Int) < (ol : Int) := by omega
                  by_cases hk0 : (cleX N n of cl d).length = 0
                  · have hlw : lwX N of c ≤ lwX N of d := HMN.out (fun e he => by have := List.length_pos_of_mem he; omega)
                    have q0 : (((cleX N n of cl d).length : Int) == 0) = true := by simp; exact List.length_eq_zero_iff.1 hk0
                    have l1 : decide ((lwX N of d : Int) < (lwX N of c : Int)) = false := by have := hlw; simp; omega
                    have l1n : ¬ lwX N of d < lwX N of c := by omega
                    generalize lwX N of d = ld at *
                    generalize lwX N of c = lc at *
                    generalize (cleX N n of cl d).length = kl at *
                    clear hlw HMN HLK
                    go_upto_region 31 with fail
                    as_aux_lemma =>
                      refine wp_region_held_drew (S := fun W => Fr (fun _ => False) wb W) (by kernel_rfl) (HFB.out.2.2.drew) (fun hHeld => ?_)
                      refine heldTake (i := 0) 172 (v := ?_) rfl rfl (by kernel_rfl) (by kernel_rfl) (by kernel_rfl) (fun _ _ _ h => h) (by kernel_rfl) (fun w hSw => (by have q1 := HPM.out w hSw; have q2 := HPO2.out w hSw; go_simp; try with_reducible rfl)) hHeld ?_
                      simp only [Act.put, List.setIfInBounds_toArray, List.set_cons_zero, List.set_cons_succ]
                      refine heldTake (i := 1) 173 (v := ?_) rfl rfl (by kernel_rfl) (by kernel_rfl) (by kernel_rfl) (fun _ _ _ h => h) (by kernel_rfl) (fun w hSw => (by have q1 := HPM.out w hSw; have q2 := HPO2.out w hSw; go_simp; try with_reducible rfl)) hHeld ?_
                      simp only [Act.put, List.setIfInBounds_toArray, List.set_cons_zero, List.set_cons_succ]
                      refine heldTake (i := 2) 174 (v := ?_) rfl rfl (by kernel_rfl) (by kernel_rfl) (by kernel_rfl) (fun _ _ _ h => h) (by kernel_rfl) (fun w hSw => (by have q1 := HPM.out w hSw; have q2 := HPO2.out w hSw; go_simp; try with_reducible rfl)) hHeld ?_
                      simp only [Act.put, List.setIfInBounds_toArray, List.set_cons_zero, List.set_cons_succ]
                      refine heldTake (i := 3) 175 (v := ?_) rfl rfl (by kernel_rfl) (by kernel_rfl) (by kernel_rfl) (fun _ _ _ h => h) (by kernel_rfl) (fun w hSw => (by have q1 := HPM.out w hSw; have q2 := HPO2.out w hSw; go_simp; try with_reducible rfl)) hHeld ?_
                      simp only [Act.put, List.setIfInBounds_toArray, List.set_cons_zero, List.set_cons_succ]
                      refine heldTake (i := 4) 176 (v := ?_) rfl rfl (by kernel_rfl) (by kernel_rfl) (by kernel_rfl) (fun _ _ _ h => h) (by kernel_rfl) (fun w hSw => (by have q1 := HPM.out w hSw; have q2 := HPO2.out w hSw; go_simp; try with_reducible rfl)) hHeld ?_
                      simp only [Act.put, List.setIfInBounds_toArray, List.set_cons_zero, List.set_cons_succ]
                      refine heldTake (i := 5) 177 (v := ?_) rfl rfl (by kernel_rfl) (by kernel_rfl) (by kernel_rfl) (fun _ _ _ h => h) (by kernel_rfl) (fun w hSw => (by have q1 := HPM.out w hSw; have q2 := HPO2.out w hSw; go_simp; try with_reducible rfl)) hHeld ?_
                      simp only [Act.put, List.setIfInBounds_toArray, List.set_cons_zero, List.set_cons_succ]
                      refine heldTake (i := 6) 178 (v := ?_) rfl rfl (by kernel_rfl) (by kernel_rfl) (by kernel_rfl) (fun _ _ _ h => h) (by kernel_rfl) (fun w hSw => (by have q1 := HPM.out w hSw; have q2 := HPO2.out w hSw; go_simp; try with_reducible rfl)) hHeld ?_
                      simp only [Act.put, List.setIfInBounds_toArray, List.set_cons_zero, List.set_cons_succ]
                      refine heldTake (i := 7) 179 (v := ?_) rfl rfl (by kernel_rfl) (by kernel_rfl) (by kernel_rfl) (fun _ _ _ h => h) (by kernel_rfl) (fun w hSw => (by have q1 := HPM.out w hSw; have q2 := HPO2.out w hSw; go_simp; try with_reducible rfl)) hHeld ?_
                      simp only [Act.put, List.setIfInBounds_toArray, List.set_cons_zero, List.set_cons_succ]
                      refine heldPass (i := 8) 180 rfl rfl (by kernel_rfl) (by kernel_rfl) (by kernel_rfl) (fun _ _ _ h => h) (by kernel_rfl) hHeld ?_
                      simp only [Act.put, List.setIfInBounds_toArray, List.set_cons_zero, List.set_cons_succ]
                      refine heldPass (i := 9) 181 rfl rfl (by kernel_rfl) (by kernel_rfl) (by kernel_rfl) (fun _ _ _ h => h) (by kernel_rfl) hHeld ?_
                      simp only [Act.put, List.setIfInBounds_toArray, List.set_cons_zero, List.set_cons_succ]
                      refine heldPass (i := 10) 182 rfl rfl (by kernel_rfl) (by kernel_rfl) (by kernel_rfl) (fun _ _ _ h => h) (by kernel_rfl) hHeld ?_
                      simp only [Act.put, List.setIfInBounds_toArray, List.set_cons_zero, List.set_cons_succ]
                      refine heldPass (i := 11) 183 rfl rfl (by kernel_rfl) (by kernel_rfl) (by kernel_rfl) (fun _ _ _ h => h) (by kernel_rfl) hHeld ?_
                      simp only [Act.put, List.setIfInBounds_toArray, List.set_cons_zero, List.set_cons_succ]
                      refine heldPass (i := 12) 184 rfl rfl (by kernel_rfl) (by kernel_rfl) (by kernel_rfl) (fun _ _ _ h => h) (by kernel_rfl) hHeld ?_
                      simp only [Act.put, List.setIfInBounds_toArray, List.set_cons_zero, List.set_cons_succ]
                      refine heldPass (i := 13) 185 rfl rfl (by kernel_rfl) (by kernel_rfl) (by kernel_rfl) (fun _ _ _ h => h) (by kernel_rfl) hHeld ?_
                      simp only [Act.put, List.setIfInBounds_toArray, List.set_cons_zero, List.set_cons_succ]
                      refine heldPass (i := 14) 186 rfl rfl (by kernel_rfl) (by kernel_rfl) (by kernel_rfl) (fun _ _ _ h => h) (by kernel_rfl) hHeld ?_
                      simp only [Act.put, List.setIfInBounds_toArray, List.set_cons_zero, List.set_cons_succ]
                      refine heldPass (i := 15) 187 rfl rfl (by kernel_rfl) (by kernel_rfl) (by kernel_rfl) (fun _ _ _ h => h) (by kernel_rfl) hHeld ?_
                      simp only [Act.put, List.setIfInBounds_toArray, List.set_cons_zero, List.set_cons_succ]
                      refine heldTake (i := 16) 188 (v := ?_) rfl rfl (by kernel_rfl) (by kernel_rfl) (by kernel_rfl) (fun _ _ _ h => h) (by kernel_rfl) (fun w hSw => (by have q1 := HPM.out w hSw; have q2 := HPO2.out w hSw; go_simp; try with_reducible rfl)) hHeld ?_
                      simp only [Act.put, List.setIfInBounds_toArray, List.set_cons_zero, List.set_cons_succ]
                      refine heldTake (i := 17) 189 (v := ?_) rfl rfl (by kernel_rfl) (by kernel_rfl) (by kernel_rfl) (fun _ _ _ h => h) (by kernel_rfl) (fun w hSw => (by have q1 := HPM.out w hSw; have q2 := HPO2.out w hSw; go_simp; try with_reducible rfl)) hHeld ?_
                      simp only [Act.put, List.setIfInBounds_toArray, List.set_cons_zero, List.set_cons_succ]
                      refine heldTake (i := 18) 190 (v := ?_) rfl rfl (by kernel_rfl) (by kernel_rfl) (by kernel_rfl) (fun _ _ _ h => h) (by kernel_rfl) (fun w hSw => (by have q1 := HPM.out w hSw; have q2 := HPO2.out w hSw; go_simp; try with_reducible rfl)) hHeld ?_
                      simp only [Act.put, List.setIfInBounds_toArray, List.set_cons_zero, List.set_cons_succ]
                      refine heldTake (i := 19) 191 (v := ?_) rfl rfl (by kernel_rfl) (by kernel_rfl) (by kernel_rfl) (fun _ _ _ h => h) (by kernel_rfl) (fun w hSw => (by have q1 := HPM.out w hSw; have q2 := HPO2.out w hSw; go_simp; try with_reducible rfl)) hHeld ?_
                      simp only [Act.put, List.setIfInBounds_toArray, List.set_cons_zero, List.set_cons_succ]
                      refine heldTake (i := 20) 192 (v := ?_) rfl rfl (by kernel_rfl) (by kernel_rfl) (by kernel_rfl) (fun _ _ _ h => h) (by kernel_rfl) (fun w hSw => (by have q1 := HPM.out w hSw; have q2 := HPO2.out w hSw; go_simp; try with_reducible rfl)) hHeld ?_
                      simp only [Act.put, List.setIfInBounds_toArray, List.set_cons_zero, List.set_cons_succ]
                      refine heldTake (i := 21) 193 (v := ?_) rfl rfl (by kernel_rfl) (by kernel_rfl) (by kernel_rfl) (fun _ _ _ h => h) (by kernel_rfl) (fun w hSw => (by have q1 := HPM.out w hSw; have q2 := HPO2.out w hSw; go_simp; try with_reducible rfl)) hHeld ?_
                      simp only [Act.put, List.setIfInBounds_toArray, List.set_cons_zero, List.set_cons_succ]
                      refine heldTake (i := 22) 194 (v := ?_) rfl rfl (by kernel_rfl) (by kernel_rfl) (by kernel_rfl) (fun _ _ _ h => h) (by kernel_rfl) (fun w hSw => (by have q1 := HPM.out w hSw; have q2 := HPO2.out w hSw; go_simp; try with_reducible rfl)) hHeld ?_
                      simp only [Act.put, List.setIfInBounds_toArray, List.set_cons_zero, List.set_cons_succ]
                      refine heldTake (i := 23) 195 (v := ?_) rfl rfl (by kernel_rfl) (by kernel_rfl) (by kernel_rfl) (fun _ _ _ h => h) (by kernel_rfl) (fun w hSw => (by have q1 := HPM.out w hSw; have q2 := HPO2.out w hSw; go_simp; try with_reducible rfl)) hHeld ?_
                      simp only [Act.put, List.setIfInBounds_toArray, List.set_cons_zero, List.set_cons_succ]
                      refine heldTake (i := 24) 196 (v := ?_) rfl rfl (by kernel_rfl) (by kernel_rfl) (by kernel_rfl) (fun _ _ _ h => h) (by kernel_rfl) (fun w hSw => (by have q1 := HPM.out w hSw; have q2 := HPO2.out w hSw; go_simp; try with_reducible rfl)) hHeld ?_
                      simp only [Act.put, List.setIfInBounds_toArray, List.set_cons_zero, List.set_cons_succ]
                      refine heldTake (i := 25) 197 (v := ?_) rfl rfl (by kernel_rfl) (by kernel_rfl) (by kernel_rfl) (fun _ _ _ h => h) (by kernel_rfl) (fun w hSw => (by have q1 := HPM.out w hSw; have q2 := HPO2.out w hSw; go_simp; try with_reducible rfl)) hHeld ?_
                      simp only [Act.put, List.setIfInBounds_toArray, List.set_cons_zero, List.set_cons_succ]
                      refine heldTake (i := 26) 198 (v := ?_) rfl rfl (by kernel_rfl) (by kernel_rfl) (by kernel_rfl) (fun _ _ _ h => h) (by kernel_rfl) (fun w hSw => (by have q1 := HPM.out w hSw; have q2 := HPO2.out w hSw; go_simp; try with_reducible rfl)) hHeld ?_
                      simp only [Act.put, List.setIfInBounds_toArray, List.set_cons_zero, List.set_cons_succ]
                      refine wpAnyH_done (by kernel_rfl) ?_ _
                      have HF9 : Hd (Fr (fun _ => False) w8 wb.drew) := HFB.out.2.1.drew
                      clear hHeld
                      go_wp2_with fail
                      go_roundw
                      case measure => have := HLD.out; simp; omega
                      case rel => exact ⟨d + 1, by simp <;> omega, by omega, by have := HLD.out; omega, HF9.out⟩
                  · obtain ⟨kg, eka, hlsk⟩ := HLK.out (by omega)
                    subst eka
                    have q0 : (((cleX N n of cl d).length : Int) == 0) = false := by simp; intro e; exact hk0 (by rw [e]; rfl)
                    obtain ⟨M, hM⟩ : ∃ M : Nat, M = (cleX N n of cl d).length - 1 := ⟨_, rfl⟩
                    obtain ⟨y, hy⟩ : ∃ y, (cleX N n of cl d)[M]? = some y := ⟨_, List.getElem?_eq_getElem (by omega)⟩
                    have HPK : Hd (∀ W, Fr (fun _ => False) wb W → W.cell? ⟨kg, M, none⟩ = some (vI (y : Nat))) := fun W fW => hlsk W (HFB.out.1.trans fW) M y hy
                    have qM : IntKind.i64.wrap (((cleX N n of cl d).length : Int) - 1) = (M : Int) := by rw [wrap_small _ (by omega) (by omega)]; omega
                    have qM' : ((cleX N n of cl d).length : Int) - 1 = (M : Int) := by omega
                    have qMw : IntKind.i64.wrap (M : Int) = (M : Int) := wrap_small _ (by omega) (by omega)
                    have M0 : (0 : Int) ≤ M := by omega
                    have M1 : (M : Int) < ((cleX N n of cl d).length : Int) := by omega
                    have HYA : Hd (y < c → ∀ e ∈ cleX N n of cl d, e < c) := fun hyc e he => by
                      obtain ⟨j, hj, ej⟩ := List.mem_iff_getElem.1 he
                      have hMl : M < (cleX N n of cl d).length := by omega
                      rw [List.getElem?_eq_getElem hMl] at hy
                      injection hy with hy
                      by_cases ejM : j = M
                      · subst ejM; omega
                      · have := (List.pairwise_iff_getElem.1 (cleX_rise (N := N) (n := n) (of := of) (cl := cl) d)) j M hj hMl (by omega)
                        omega
                    clear HLK hlsk hy
                    by_cases hyc : y < c
                    · have hlw : lwX N of c ≤ lwX N of d := HMN.out (HYA.out hyc)
                      have y1 : decide ((y : Int) < (c : Int)) = true := by simp; omega
                      have l1 : decide ((lwX N of d : Int) < (lwX N of c : Int)) = false := by have := hlw; simp; omega
                      have l1n : ¬ lwX N of d < lwX N of c := by omega
                      generalize lwX N of d = ld at *
                      generalize lwX N of c = lc at *
                      clear hlw HMN HYA hM
                      generalize (cleX N n of cl d).length = kl at *
                      go_upto_region 31 with fail
                      as_aux_lemma =>
                        refine wp_region_held_drew (S := fun W => Fr (fun _ => False) wb W) (by kernel_rfl) (HFB.out.2.2.drew) (fun hHeld => ?_)
                        refine heldTake (i := 0) 172 (v := ?_) rfl rfl (by kernel_rfl) (by kernel_rfl) (by kernel_rfl) (fun _ _ _ h => h) (by kernel_rfl) (fun w hSw => (by have q1 := HPM.out w hSw; have q2 := HPO2.out w hSw; have q3 := HPK.out w hSw; go_simp; try with_reducible rfl)) hHeld ?_
                        simp only [Act.put, List.setIfInBounds_toArray, List.set_cons_zero, List.set_cons_succ]
                        refine heldTake (i := 1) 173 (v := ?_) rfl rfl (by kernel_rfl) (by kernel_rfl) (by kernel_rfl) (fun _ _ _ h => h) (by kernel_rfl) (fun w hSw => (by have q1 := HPM.out w hSw; have q2 := HPO2.out w hSw; have q3 := HPK.out w hSw; go_simp; try with_reducible rfl)) hHeld ?_
                        simp only [Act.put, List.setIfInBounds_toArray, List.set_cons_zero, List.set_cons_succ]
                        refine heldTake (i := 2) 174 (v := ?_) rfl rfl (by kernel_rfl) (by kernel_rfl) (by kernel_rfl) (fun _ _ _ h => h) (by kernel_rfl) (fun w hSw => (by have q1 := HPM.out w hSw; have q2 := HPO2.out w hSw; have q3 := HPK.out w hSw; go_simp; try with_reducible rfl)) hHeld ?_
                        simp only [Act.put, List.setIfInBounds_toArray, List.set_cons_zero, List.set_cons_succ]
                        refine heldTake (i := 3) 175 (v := ?_) rfl rfl (by kernel_rfl) (by kernel_rfl) (by kernel_rfl) (fun _ _ _ h => h) (by kernel_rfl) (fun w hSw => (by have q1 := HPM.out w hSw; have q2 := HPO2.out w hSw; have q3 := HPK.out w hSw; go_simp; try with_reducible rfl)) hHeld ?_
                        simp only [Act.put, List.setIfInBounds_toArray, List.set_cons_zero, List.set_cons_succ]
                        refine heldTake (i := 4) 176 (v := ?_) rfl rfl (by kernel_rfl) (by kernel_rfl) (by kernel_rfl) (fun _ _ _ h => h) (by kernel_rfl) (fun w hSw => (by have q1 := HPM.out w hSw; have q2 := HPO2.out w hSw; have q3 := HPK.out w hSw; go_simp; try with_reducible rfl)) hHeld ?_
                        simp only [Act.put, List.setIfInBounds_toArray, List.set_cons_zero, List.set_cons_succ]
                        refine heldTake (i := 5) 177 (v := ?_) rfl rfl (by kernel_rfl) (by kernel_rfl) (by kernel_rfl) (fun _ _ _ h => h) (by kernel_rfl) (fun w hSw => (by have q1 := HPM.out w hSw; have q2 := HPO2.out w hSw; have q3 := HPK.out w hSw; go_simp; try with_reducible rfl)) hHeld ?_
                        simp only [Act.put, List.setIfInBounds_toArray, List.set_cons_zero, List.set_cons_succ]
                        refine heldTake (i := 6) 178 (v := ?_) rfl rfl (by kernel_rfl) (by kernel_rfl) (by kernel_rfl) (fun _ _ _ h => h) (by kernel_rfl) (fun w hSw => (by have q1 := HPM.out w hSw; have q2 := HPO2.out w hSw; have q3 := HPK.out w hSw; go_simp; try with_reducible rfl)) hHeld ?_
                        simp only [Act.put, List.setIfInBounds_toArray, List.set_cons_zero, List.set_cons_succ]
                        refine heldTake (i := 7) 179 (v := ?_) rfl rfl (by kernel_rfl) (by kernel_rfl) (by kernel_rfl) (fun _ _ _ h => h) (by kernel_rfl) (fun w hSw => (by have q1 := HPM.out w hSw; have q2 := HPO2.out w hSw; have q3 := HPK.out w hSw; go_simp; try with_reducible rfl)) hHeld ?_
                        simp only [Act.put, List.setIfInBounds_toArray, List.set_cons_zero, List.set_cons_succ]
                        refine heldTake (i := 8) 180 (v := ?_) rfl rfl (by kernel_rfl) (by kernel_rfl) (by kernel_rfl) (fun _ _ _ h => h) (by kernel_rfl) (fun w hSw => (by have q1 := HPM.out w hSw; have q2 := HPO2.out w hSw; have q3 := HPK.out w hSw; go_simp; try with_reducible rfl)) hHeld ?_
                        simp only [Act.put, List.setIfInBounds_toArray, List.set_cons_zero, List.set_cons_succ]
                        refine heldTake (i := 9) 181 (v := ?_) rfl rfl (by kernel_rfl) (by kernel_rfl) (by kernel_rfl) (fun _ _ _ h => h) (by kernel_rfl) (fun w hSw => (by have q1 := HPM.out w hSw; have q2 := HPO2.out w hSw; have q3 := HPK.out w hSw; go_simp; try with_reducible rfl)) hHeld ?_
                        simp only [Act.put, List.setIfInBounds_toArray, List.set_cons_zero, List.set_cons_succ]
                        refine heldTake (i := 10) 182 (v := ?_) rfl rfl (by kernel_rfl) (by kernel_rfl) (by kernel_rfl) (fun _ _ _ h => h) (by kernel_rfl) (fun w hSw => (by have q1 := HPM.out w hSw; have q2 := HPO2.out w hSw; have q3 := HPK.out w hSw; go_simp; try with_reducible rfl)) hHeld ?_
                        simp only [Act.put, List.setIfInBounds_toArray, List.set_cons_zero, List.set_cons_succ]
                        refine heldTake (i := 11) 183 (v := ?_) rfl rfl (by kernel_rfl) (by kernel_rfl) (by kernel_rfl) (fun _ _ _ h => h) (by kernel_rfl) (fun w hSw => (by have q1 := HPM.out w hSw; have q2 := HPO2.out w hSw; have q3 := HPK.out w hSw; go_simp; try with_reducible rfl)) hHeld ?_
                        simp only [Act.put, List.setIfInBounds_toArray, List.set_cons_zero, List.set_cons_succ]
                        refine heldTake (i := 12) 184 (v := ?_) rfl rfl (by kernel_rfl) (by kernel_rfl) (by kernel_rfl) (fun _ _ _ h => h) (by kernel_rfl) (fun w hSw => (by have q1 := HPM.out w hSw; have q2 := HPO2.out w hSw; have q3 := HPK.out w hSw; go_simp; try with_reducible rfl)) hHeld ?_
                        simp only [Act.put, List.setIfInBounds_toArray, List.set_cons_zero, List.set_cons_succ]
                        refine heldTake (i := 13) 185 (v := ?_) rfl rfl (by kernel_rfl) (by kernel_rfl) (by kernel_rfl) (fun _ _ _ h => h) (by kernel_rfl) (fun w hSw => (by have q1 := HPM.out w hSw; have q2 := HPO2.out w hSw; have q3 := HPK.out w hSw; go_simp; try with_reducible rfl)) hHeld ?_
                        simp only [Act.put, List.setIfInBounds_toArray, List.set_cons_zero, List.set_cons_succ]
                        refine heldTake (i := 14) 186 (v := ?_) rfl rfl (by kernel_rfl) (by kernel_rfl) (by kernel_rfl) (fun _ _ _ h => h) (by kernel_rfl) (fun w hSw => (by have q1 := HPM.out w hSw; have q2 := HPO2.out w hSw; have q3 := HPK.out w hSw; go_simp; try with_reducible rfl)) hHeld ?_
                        simp only [Act.put, List.setIfInBounds_toArray, List.set_cons_zero, List.set_cons_succ]
                        refine heldTake (i := 15) 187 (v := ?_) rfl rfl (by kernel_rfl) (by kernel_rfl) (by kernel_rfl) (fun _ _ _ h => h) (by kernel_rfl) (fun w hSw => (by have q1 := HPM.out w hSw; have q2 := HPO2.out w hSw; have q3 := HPK.out w hSw; go_simp; try with_reducible rfl)) hHeld ?_
                        simp only [Act.put, List.setIfInBounds_toArray, List.set_cons_zero, List.set_cons_succ]
                        refine heldTake (i := 16) 188 (v := ?_) rfl rfl (by kernel_rfl) (by kernel_rfl) (by kernel_rfl) (fun _ _ _ h => h) (by kernel_rfl) (fun w hSw => (by have q1 := HPM.out w hSw; have q2 := HPO2.out w hSw; have q3 := HPK.out w hSw; go_simp; try with_reducible rfl)) hHeld ?_
                        simp only [Act.put, List.setIfInBounds_toArray, List.set_cons_zero, List.set_cons_succ]
                        refine heldTake (i := 17) 189 (v := ?_) rfl rfl (by kernel_rfl) (by kernel_rfl) (by kernel_rfl) (fun _ _ _ h => h) (by kernel_rfl) (fun w hSw => (by have q1 := HPM.out w hSw; have q2 := HPO2.out w hSw; have q3 := HPK.out w hSw; go_simp; try with_reducible rfl)) hHeld ?_
                        simp only [Act.put, List.setIfInBounds_toArray, List.set_cons_zero, List.set_cons_succ]
                        refine heldTake (i := 18) 190 (v := ?_) rfl rfl (by kernel_rfl) (by kernel_rfl) (by kernel_rfl) (fun _ _ _ h => h) (by kernel_rfl) (fun w hSw => (by have q1 := HPM.out w hSw; have q2 := HPO2.out w hSw; have q3 := HPK.out w hSw; go_simp; try with_reducible rfl)) hHeld ?_
                        simp only [Act.put, List.setIfInBounds_toArray, List.set_cons_zero, List.set_cons_succ]
                        refine heldTake (i := 19) 191 (v := ?_) rfl rfl (by kernel_rfl) (by kernel_rfl) (by kernel_rfl) (fun _ _ _ h => h) (by kernel_rfl) (fun w hSw => (by have q1 := HPM.out w hSw; have q2 := HPO2.out w hSw; have q3 := HPK.out w hSw; go_simp; try with_reducible rfl)) hHeld ?_
                        simp only [Act.put, List.setIfInBounds_toArray, List.set_cons_zero, List.set_cons_succ]
                        refine heldTake (i := 20) 192 (v := ?_) rfl rfl (by kernel_rfl) (by kernel_rfl) (by kernel_rfl) (fun _ _ _ h => h) (by kernel_rfl) (fun w hSw => (by have q1 := HPM.out w hSw; have q2 := HPO2.out w hSw; have q3 := HPK.out w hSw; go_simp; try with_reducible rfl)) hHeld ?_
                        simp only [Act.put, List.setIfInBounds_toArray, List.set_cons_zero, List.set_cons_succ]
                        refine heldTake (i := 21) 193 (v := ?_) rfl rfl (by kernel_rfl) (by kernel_rfl) (by kernel_rfl) (fun _ _ _ h => h) (by kernel_rfl) (fun w hSw => (by have q1 := HPM.out w hSw; have q2 := HPO2.out w hSw; have q3 := HPK.out w hSw; go_simp; try with_reducible rfl)) hHeld ?_
                        simp only [Act.put, List.setIfInBounds_toArray, List.set_cons_zero, List.set_cons_succ]
                        refine heldTake (i := 22) 194 (v := ?_) rfl rfl (by kernel_rfl) (by kernel_rfl) (by kernel_rfl) (fun _ _ _ h => h) (by kernel_rfl) (fun w hSw => (by have q1 := HPM.out w hSw; have q2 := HPO2.out w hSw; have q3 := HPK.out w hSw; go_simp; try with_reducible rfl)) hHeld ?_
                        simp only [Act.put, List.setIfInBounds_toArray, List.set_cons_zero, List.set_cons_succ]
                        refine heldTake (i := 23) 195 (v := ?_) rfl rfl (by kernel_rfl) (by kernel_rfl) (by kernel_rfl) (fun _ _ _ h => h) (by kernel_rfl) (fun w hSw => (by have q1 := HPM.out w hSw; have q2 := HPO2.out w hSw; have q3 := HPK.out w hSw; go_simp; try with_reducible rfl)) hHeld ?_
                        simp only [Act.put, List.setIfInBounds_toArray, List.set_cons_zero, List.set_cons_succ]
                        refine heldTake (i := 24) 196 (v := ?_) rfl rfl (by kernel_rfl) (by kernel_rfl) (by kernel_rfl) (fun _ _ _ h => h) (by kernel_rfl) (fun w hSw => (by have q1 := HPM.out w hSw; have q2 := HPO2.out w hSw; have q3 := HPK.out w hSw; go_simp; try with_reducible rfl)) hHeld ?_
                        simp only [Act.put, List.setIfInBounds_toArray, List.set_cons_zero, List.set_cons_succ]
                        refine heldTake (i := 25) 197 (v := ?_) rfl rfl (by kernel_rfl) (by kernel_rfl) (by kernel_rfl) (fun _ _ _ h => h) (by kernel_rfl) (fun w hSw => (by have q1 := HPM.out w hSw; have q2 := HPO2.out w hSw; have q3 := HPK.out w hSw; go_simp; try with_reducible rfl)) hHeld ?_
                        simp only [Act.put, List.setIfInBounds_toArray, List.set_cons_zero, List.set_cons_succ]
                        refine heldTake (i := 26) 198 (v := ?_) rfl rfl (by kernel_rfl) (by kernel_rfl) (by kernel_rfl) (fun _ _ _ h => h) (by kernel_rfl) (fun w hSw => (by have q1 := HPM.out w hSw; have q2 := HPO2.out w hSw; have q3 := HPK.out w hSw; go_simp; try with_reducible rfl)) hHeld ?_
                        simp only [Act.put, List.setIfInBounds_toArray, List.set_cons_zero, List.set_cons_succ]
                        refine wpAnyH_done (by kernel_rfl) ?_ _
                        have HF9 : Hd (Fr (fun _ => False) w8 wb.drew) := HFB.out.2.1.drew
                        clear hHeld
                        go_wp2_with fail
                        go_roundw
                        case measure => have := HLD.out; simp; omega
                        case rel => exact ⟨d + 1, by simp <;> omega, by omega, by have := HLD.out; omega, HF9.out⟩
                    · have y1 : decide ((y : Int) < (c : Int)) = false := by simp; omega
                      have y1n : ¬ y < c := hyc
                      clear HMN HYA hM
                      generalize (cleX N n of cl d).length = kl at *
                      go_upto_region 31 with fail
                      as_aux_lemma =>
                        refine wp_region_held_drew (S := fun W => Fr (fun _ => False) wb W) (by kernel_rfl) (HFB.out.2.2.drew) (fun hHeld => ?_)
                        refine heldTake (i := 0) 172 (v := ?_) rfl rfl (by kernel_rfl) (by kernel_rfl) (by kernel_rfl) (fun _ _ _ h => h) (by kernel_rfl) (fun w hSw => (by have q3 := HPK.out w hSw; go_simp; try with_reducible rfl)) hHeld ?_
                        simp only [Act.put, List.setIfInBounds_toArray, List.set_cons_zero, List.set_cons_succ]
                        refine heldTake (i := 1) 173 (v := ?_) rfl rfl (by kernel_rfl) (by kernel_rfl) (by kernel_rfl) (fun _ _ _ h => h) (by kernel_rfl) (fun w hSw => (by have q3 := HPK.out w hSw; go_simp; try with_reducible rfl)) hHeld ?_
                        simp only [Act.put, List.setIfInBounds_toArray, List.set_cons_zero, List.set_cons_succ]
                        refine heldTake (i := 2) 174 (v := ?_) rfl rfl (by kernel_rfl) (by kernel_rfl) (by kernel_rfl) (fun _ _ _ h => h) (by kernel_rfl) (fun w hSw => (by have q3 := HPK.out w hSw; go_simp; try with_reducible rfl)) hHeld ?_
                        simp only [Act.put, List.setIfInBounds_toArray, List.set_cons_zero, List.set_cons_succ]
                        refine heldTake (i := 3) 175 (v := ?_) rfl rfl (by kernel_rfl) (by kernel_rfl) (by kernel_rfl) (fun _ _ _ h => h) (by kernel_rfl) (fun w hSw => (by have q3 := HPK.out w hSw; go_simp; try with_reducible rfl)) hHeld ?_
                        simp only [Act.put, List.setIfInBounds_toArray, List.set_cons_zero, List.set_cons_succ]
                        refine heldTake (i := 4) 176 (v := ?_) rfl rfl (by kernel_rfl) (by kernel_rfl) (by kernel_rfl) (fun _ _ _ h => h) (by kernel_rfl) (fun w hSw => (by have q3 := HPK.out w hSw; go_simp; try with_reducible rfl)) hHeld ?_
                        simp only [Act.put, List.setIfInBounds_toArray, List.set_cons_zero, List.set_cons_succ]
                        refine heldTake (i := 5) 177 (v := ?_) rfl rfl (by kernel_rfl) (by kernel_rfl) (by kernel_rfl) (fun _ _ _ h => h) (by kernel_rfl) (fun w hSw => (by have q3 := HPK.out w hSw; go_simp; try with_reducible rfl)) hHeld ?_
                        simp only [Act.put, List.setIfInBounds_toArray, List.set_cons_zero, List.set_cons_succ]
                        refine heldTake (i := 6) 178 (v := ?_) rfl rfl (by kernel_rfl) (by kernel_rfl) (by kernel_rfl) (fun _ _ _ h => h) (by kernel_rfl) (fun w hSw => (by have q3 := HPK.out w hSw; go_simp; try with_reducible rfl)) hHeld ?_
                        simp only [Act.put, List.setIfInBounds_toArray, List.set_cons_zero, List.set_cons_succ]
                        refine heldTake (i := 7) 179 (v := ?_) rfl rfl (by kernel_rfl) (by kernel_rfl) (by kernel_rfl) (fun _ _ _ h => h) (by kernel_rfl) (fun w hSw => (by have q3 := HPK.out w hSw; go_simp; try with_reducible rfl)) hHeld ?_
                        simp only [Act.put, List.setIfInBounds_toArray, List.set_cons_zero, List.set_cons_succ]
                        refine heldTake (i := 8) 180 (v := ?_) rfl rfl (by kernel_rfl) (by kernel_rfl) (by kernel_rfl) (fun _ _ _ h => h) (by kernel_rfl) (fun w hSw => (by have q3 := HPK.out w hSw; go_simp; try with_reducible rfl)) hHeld ?_
                        simp only [Act.put, List.setIfInBounds_toArray, List.set_cons_zero, List.set_cons_succ]
                        refine heldTake (i := 9) 181 (v := ?_) rfl rfl (by kernel_rfl) (by kernel_rfl) (by kernel_rfl) (fun _ _ _ h => h) (by kernel_rfl) (fun w hSw => (by have q3 := HPK.out w hSw; go_simp; try with_reducible rfl)) hHeld ?_
                        simp only [Act.put, List.setIfInBounds_toArray, List.set_cons_zero, List.set_cons_succ]
                        refine heldTake (i := 10) 182 (v := ?_) rfl rfl (by kernel_rfl) (by kernel_rfl) (by kernel_rfl) (fun _ _ _ h => h) (by kernel_rfl) (fun w hSw => (by have q3 := HPK.out w hSw; go_simp; try with_reducible rfl)) hHeld ?_
                        simp only [Act.put, List.setIfInBounds_toArray, List.set_cons_zero, List.set_cons_succ]
                        refine heldTake (i := 11) 183 (v := ?_) rfl rfl (by kernel_rfl) (by kernel_rfl) (by kernel_rfl) (fun _ _ _ h => h) (by kernel_rfl) (fun w hSw => (by have q3 := HPK.out w hSw; go_simp; try with_reducible rfl)) hHeld ?_
                        simp only [Act.put, List.setIfInBounds_toArray, List.set_cons_zero, List.set_cons_succ]
                        refine heldTake (i := 12) 184 (v := ?_) rfl rfl (by kernel_rfl) (by kernel_rfl) (by kernel_rfl) (fun _ _ _ h => h) (by kernel_rfl) (fun w hSw => (by have q3 := HPK.out w hSw; go_simp; try with_reducible rfl)) hHeld ?_
                        simp only [Act.put, List.setIfInBounds_toArray, List.set_cons_zero, List.set_cons_succ]
                        refine heldTake (i := 13) 185 (v := ?_) rfl rfl (by kernel_rfl) (by kernel_rfl) (by kernel_rfl) (fun _ _ _ h => h) (by kernel_rfl) (fun w hSw => (by have q3 := HPK.out w hSw; go_simp; try with_reducible rfl)) hHeld ?_
                        simp only [Act.put, List.setIfInBounds_toArray, List.set_cons_zero, List.set_cons_succ]
                        refine heldTake (i := 14) 186 (v := ?_) rfl rfl (by kernel_rfl) (by kernel_rfl) (by kernel_rfl) (fun _ _ _ h => h) (by kernel_rfl) (fun w hSw => (by have q3 := HPK.out w hSw; go_simp; try with_reducible rfl)) hHeld ?_
                        simp only [Act.put, List.setIfInBounds_toArray, List.set_cons_zero, List.set_cons_succ]
                        refine heldTake (i := 15) 187 (v := ?_) rfl rfl (by kernel_rfl) (by kernel_rfl) (by kernel_rfl) (fun _ _ _ h => h) (by kernel_rfl) (fun w hSw => (by have q3 := HPK.out w hSw; go_simp; try with_reducible rfl)) hHeld ?_
                        simp only [Act.put, List.setIfInBounds_toArray, List.set_cons_zero, List.set_cons_succ]
                        refine heldTake (i := 16) 188 (v := ?_) rfl rfl (by kernel_rfl) (by kernel_rfl) (by kernel_rfl) (fun _ _ _ h => h) (by kernel_rfl) (fun w hSw => (by have q3 := HPK.out w hSw; go_simp; try with_reducible rfl)) hHeld ?_
                        simp only [Act.put, List.setIfInBounds_toArray, List.set_cons_zero, List.set_cons_succ]
                        refine heldTake (i := 17) 189 (v := ?_) rfl rfl (by kernel_rfl) (by kernel_rfl) (by kernel_rfl) (fun _ _ _ h => h) (by kernel_rfl) (fun w hSw => (by have q3 := HPK.out w hSw; go_simp; try with_reducible rfl)) hHeld ?_
                        simp only [Act.put, List.setIfInBounds_toArray, List.set_cons_zero, List.set_cons_succ]
                        refine heldPass (i := 18) 190 rfl rfl (by kernel_rfl) (by kernel_rfl) (by kernel_rfl) (fun _ _ _ h => h) (by kernel_rfl) hHeld ?_
                        simp only [Act.put, List.setIfInBounds_toArray, List.set_cons_zero, List.set_cons_succ]
                        refine heldPass (i := 19) 191 rfl rfl (by kernel_rfl) (by kernel_rfl) (by kernel_rfl) (fun _ _ _ h => h) (by kernel_rfl) hHeld ?_
                        simp only [Act.put, List.setIfInBounds_toArray, List.set_cons_zero, List.set_cons_succ]
                        refine heldPass (i := 20) 192 rfl rfl (by kernel_rfl) (by kernel_rfl) (by kernel_rfl) (fun _ _ _ h => h) (by kernel_rfl) hHeld ?_
                        simp only [Act.put, List.setIfInBounds_toArray, List.set_cons_zero, List.set_cons_succ]
                        refine heldPass (i := 21) 193 rfl rfl (by kernel_rfl) (by kernel_rfl) (by kernel_rfl) (fun _ _ _ h => h) (by kernel_rfl) hHeld ?_
                        simp only [Act.put, List.setIfInBounds_toArray, List.set_cons_zero, List.set_cons_succ]
                        refine heldPass (i := 22) 194 rfl rfl (by kernel_rfl) (by kernel_rfl) (by kernel_rfl) (fun _ _ _ h => h) (by kernel_rfl) hHeld ?_
                        simp only [Act.put, List.setIfInBounds_toArray, List.set_cons_zero, List.set_cons_succ]
                        refine heldPass (i := 23) 195 rfl rfl (by kernel_rfl) (by kernel_rfl) (by kernel_rfl) (fun _ _ _ h => h) (by kernel_rfl) hHeld ?_
                        simp only [Act.put, List.setIfInBounds_toArray, List.set_cons_zero, List.set_cons_succ]
                        refine heldPass (i := 24) 196 rfl rfl (by kernel_rfl) (by kernel_rfl) (by kernel_rfl) (fun _ _ _ h => h) (by kernel_rfl) hHeld ?_
                        simp only [Act.put, List.setIfInBounds_toArray, List.set_cons_zero, List.set_cons_succ]
                        refine heldTake (i := 25) 197 (v := ?_) rfl rfl (by kernel_rfl) (by kernel_rfl) (by kernel_rfl) (fun _ _ _ h => h) (by kernel_rfl) (fun w hSw => (by have q3 := HPK.out w hSw; go_simp; try with_reducible rfl)) hHeld ?_
                        simp only [Act.put, List.setIfInBounds_toArray, List.set_cons_zero, List.set_cons_succ]
                        refine heldTake (i := 26) 198 (v := ?_) rfl rfl (by kernel_rfl) (by kernel_rfl) (by kernel_rfl) (fun _ _ _ h => h) (by kernel_rfl) (fun w hSw => (by have q3 := HPK.out w hSw; go_simp; try with_reducible rfl)) hHeld ?_
                        simp only [Act.put, List.setIfInBounds_toArray, List.set_cons_zero, List.set_cons_succ]
                        refine wpAnyH_done (by kernel_rfl) ?_ _
                        have HF9 : Hd (Fr (fun _ => False) w8 wb.drew) := HFB.out.2.1.drew
                        clear hHeld
                        go_wp2_with fail
                        go_roundw
                        case measure => have := HLD.out; simp; omega
                        case rel => exact ⟨d + 1, by simp <;> omega, by omega, by have := HLD.out; omega, HF9.out⟩
                · have d2 : decide ((d : Int) < (n : Int)) = false := by simp; omega
                  have d2n : ¬ d < n := hlt
                  have HFz : Hd (Fr (fun _ => False) wg wr) := HF8.out.1.trans HF.out
                  clear hlt HF HF8 HPO
                  go_wp2_with fail
                  refine Calls.mono HLN.out ?_
                  rintro e w9 ⟨rfl, rfl⟩
                  clear HLN
                  go_wp2_with fail
                  go_roundw
                  case measure => have := HLTC.out; simp; omega
                  case rel => exact ⟨c + 1, by simp, by have := HLTC.out; omega, HFz.out⟩
    · have d1 : decide ((c : Int) < (n : Int)) = false := by simp; omega
      have d1n : ¬ c < n := hlt
      have HEN : Hd (∀ W, Fr (fun _ => False) wg W → Fr (fun _ => False) w W) := fun W fW => HFg.out.trans fW
      have HFz : Hd (Fr (fun _ => False) wg wr) := HF.out
      clear hlt HF
      go_wp2_with fail
      refine Calls.mono HLN.out ?_
      rintro e w5 ⟨rfl, rfl⟩
      clear HLN
      go_wp2_with fail
      go_loopw [17] (fun v wx => ∃ f : Nat, v = .int .i64 f ∧ f ≤ N ∧ Hd (Fr (fun _ => False) wg wx)) (fun v _ => match v with | .int _ q => N - q.toNat | _ => 0)
      case atStart => exact ⟨0, by simp, Nat.zero_le _, HFz.out⟩
      case round =>
        clear HFz d1 d1n hcn
        obtain ⟨f, rfl, hf, HF⟩ := hrel
        by_cases hlt : f < N
        · have d1 : decide ((f : Int) < (N : Int)) = true := by simp; omega
          obtain ⟨ua, uc, p2, hck, hu⟩ := lb_rows HLB.out hlt
          have HP2 : Hd (∀ W, Fr (fun _ => False) wg W → W.cell? ⟨ck, co + f, none⟩ = some (.slice ua (cl f).length uc)) := fun W fW => (fW.cell hck (fun e => e)).trans p2
          have HU : Hd (∀ (i z : Nat), (cl f)[i]? = some z → ∃ uk uo, ua = some ⟨uk, uo, none⟩ ∧ ∀ W, Fr (fun _ => False) wg W → W.cell? ⟨uk, uo + i, none⟩ = some (vI (z : Int))) := fun i z hz => by
            obtain ⟨uk, uo, e, huk, hc⟩ := hu i z hz
            exact ⟨uk, uo, e, fun W fW => (fW.cell huk (fun e => e)).trans hc⟩
          have HLF : Hd (f < N) := hlt
          have hll := HLL.out f hlt
          have HFz : Hd (Fr (fun _ => False) wg wr) := HF.out
          have f0 : (0 : Int) ≤ f := by omega
          have f1 : (f : Int) < N := by omega
          clear p2 hck hu HF
          go_wp2_with fail
          go_loopw [18] (fun v wx => ∃ i : Nat, v = .int .i64 i ∧ i ≤ (cl f).length ∧ Hd (Fr (fun _ => False) wg wx)) (fun v _ => match v with | .int _ q => (cl f).length - q.toNat | _ => 0)
          case atStart => exact ⟨0, by simp, Nat.zero_le _, HFz.out⟩
          case round =>
            clear HFz
            obtain ⟨i, rfl, hi, HF⟩ := hrel
            have p2 := HP2.out wr HF.out
            by_cases hlti : i < (cl f).length
            · have d2 : decide ((i : Int) < ((cl f).length : Int)) = true := by simp; omega
              obtain ⟨z, hz⟩ : ∃ z, (cl f)[i]? = some z := ⟨_, List.getElem?_eq_getElem hlti⟩
              have hzm : z ∈ cl f := List.mem_of_getElem? hz
              have hzN : z < N := HLT.out f HLF.out z hzm
              obtain ⟨uk, uo, rfl, hcz⟩ := HU.out i z hz
              have p3 := hcz wr HF.out
              have i0 : (0 : Int) ≤ i := by omega
              have i1 : (i : Int) < ((cl f).length : Int) := by omega
              have HO1 : Hd (Calls Tryd.prog 13 #[.pointer (some ⟨b, 0, none⟩), vI (f : Int)] wr fun e w' => e = .returned (vI (of f : Nat)) ∧ w' = wr) := of_any f (HGA.out wr HF.out) HLF.out (by omega)
              have HO2 : Hd (Calls Tryd.prog 13 #[.pointer (some ⟨b, 0, none⟩), vI (z : Int)] wr fun e w' => e = .returned (vI (of z : Nat)) ∧ w' = wr) := of_any z (HGA.out wr HF.out) hzN (by omega)
              have HFN : Hd (of f < n ∧ of z < n) := ⟨HGP.out.lt f HLF.out, HGP.out.lt z hzN⟩
              have HCE : Hd (Calls Tryd.prog 14 #[.pointer (some ⟨b, 0, none⟩), vI ((of f : Nat) : Int)] wr fun e w' => ∃ v', e = .returned v' ∧ IOwn w' wr.heap.size v' (zL (cleX N n of cl (of f))) ∧ Fr (fun _ => False) wr w') := callees_any (of f) (HGA.out wr HF.out) HFN.out.1 (by omega) (by omega)
              have HHS : Hd (of f ≠ of z → ∀ W v, IA W v (zL (cleX N n of cl (of f))) → Calls Tryd.prog 23 #[v, vI ((of z : Nat) : Int)] W fun e w' => e = .returned (.bool true) ∧ w' = W) := fun hne W v hv => by
                have := has_any v (cleX N n of cl (of f)) (of z) W hv (by
                  have := len_le (cleX_rise (N := N) (n := n) (of := of) (cl := cl) (of f)) (fun x hx => (mem_cleX.1 hx).1)
                  omega)
                rw [decide_eq_true (mem_cleX.2 ⟨HFN.out.2, hne, hitX_iff.2 ⟨f, HLF.out, rfl, z, hzm, rfl⟩⟩)] at this
                exact this
              generalize zL (cleX N n of cl (of f)) = lc at *
              generalize of f = A at *
              generalize of z = B at *
              clear hcz hz hzm hzN HFN
              by_cases hab : A = B
              · subst hab
                have t1 : ((A : Int) != (A : Int)) = false := by simp
                clear HCE HHS
                go_wp2_with fail
                refine Calls.mono HO1.out ?_
                rintro e w5 ⟨rfl, rfl⟩
                go_wp2_with fail
                refine Calls.mono HO2.out ?_
                rintro e w6 ⟨rfl, rfl⟩
                clear HO1 HO2
                go_wp2_with fail
                go_roundw
                case measure => simp; omega
                case rel => exact ⟨i + 1, by simp, by omega, HF.out⟩
              · have t1 : ((A : Int) != (B : Int)) = true := by simp; omega
                have t2 : ¬ A = B := hab
                have t3 : ((A : Int) == (B : Int)) = false := by simp; omega
                have HHS2 := HHS.out hab
                have HHS3 : Hd (∀ W v, IA W v lc → Calls Tryd.prog 23 #[v, vI (B : Int)] W fun e w' => e = .returned (.bool true) ∧ w' = W) := HHS2
                clear HHS HHS2 hab
                go_wp2_with fail
                refine Calls.mono HO1.out ?_
                rintro e w5 ⟨rfl, rfl⟩
                go_wp2_with fail
                refine Calls.mono HO2.out ?_
                rintro e w6 ⟨rfl, rfl⟩
                clear HO1 HO2
                go_wp2_with fail
                refine Calls.mono HCE.out ?_
                rintro e w7 ⟨v7, rfl, ho7, hF7⟩
                have HH7 : Hd (Calls Tryd.prog 23 #[v7, vI (B : Int)] w7 fun e w' => e = .returned (.bool true) ∧ w' = w7) := HHS3.out w7 v7 ho7.ia
                have HF7 : Hd (Fr (fun _ => False) wg w7) := HF.out.trans hF7
                obtain ⟨a7, c7, ev7⟩ := iown_cap ho7
                subst ev7
                clear HCE HHS3 ho7 hF7
                go_wp2_with fail
                refine Calls.mono HH7.out ?_
                rintro e w8 ⟨rfl, rfl⟩
                clear HH7
                go_wp2_with fail
                go_roundw
                case measure => simp; omega
                case rel => exact ⟨i + 1, by simp, by omega, HF7.out⟩
            · have d2 : decide ((i : Int) < ((cl f).length : Int)) = false := by simp; omega
              have d2n : ¬ i < (cl f).length := hlti
              have HFz : Hd (Fr (fun _ => False) wg wr) := HF.out
              clear hlti HF HU HP2
              go_wp2_with fail
              go_roundw
              case measure => have := HLF.out; simp; omega
              case rel => exact ⟨f + 1, by simp, by have := HLF.out; omega, HFz.out⟩
        · have d1 : decide ((f : Int) < (N : Int)) = false := by simp; omega
          have d1n : ¬ f < N := hlt
          have HEND : Hd (Fr (fun _ => False) w wr) := HEN.out wr HF.out
          clear hlt HF
          go_wp2_with fail
          go_ret
          exact ⟨rfl, HEND.out⟩
end Go.Proofs.YtjmbfjaahadbhaaDoor
