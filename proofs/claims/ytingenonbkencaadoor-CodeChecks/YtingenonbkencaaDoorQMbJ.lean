import Derived.Test.YtingenonbkencaaDoorQKeJ
import Derived.Test.YtingenonbkencaaDoorQLaJ
namespace Go.Proofs.YtingenonbkencaaDoor
open Go.RowKit (wrap32 wrap64)
set_option linter.unusedVariables false
set_option linter.unusedSimpArgs false

set_option maxRecDepth 100000 in
set_option maxHeartbeats 4000000 in
/-- The document's Check of any program. -/
theorem rcheck_any (w : World) (G : Int) (fs : List PF) (fv : Value) (hl : FL (w.heap.size + 1) w fv fs) :
    Calls Tryd.prog 25 #[.agg #[vI G, fv]] w fun e w' => e = .returned (vI (rAll G fs).2) ∧ Fr (fun _ => False) w w' := by
  have HFL : Hd (FL (w.heap.size + 1) w fv fs) := hl
  obtain ⟨hlen, fa, fcap, rfl, hin⟩ := hl
  have HIN : Hd _ := hin
  clear hin
  have hP : ((w.alloc (.cells #[vI G, .slice fa fs.length fcap] 26)).alloc (.cells #[vI G, .slice fa fs.length fcap, vI 0, vI 0] 58)).heap[w.heap.size]? = some (.cells #[vI G, .slice fa fs.length fcap] 26) := by
    rw [Go.RowKit.Below.heap_alloc _ _ _ (by simp)]; exact heap_new w _
  have hR : RW (w.heap.size + 1) G (.slice fa fs.length fcap) ((w.alloc (.cells #[vI G, .slice fa fs.length fcap] 26)).alloc (.cells #[vI G, .slice fa fs.length fcap, vI 0, vI 0] 58)) 0 0 := by
    unfold RW; rw [show w.heap.size + 1 = (w.alloc (.cells #[vI G, .slice fa fs.length fcap] 26)).heap.size by simp]; exact heap_new _ _
  have HF : Hd (Fr (fun k => k = w.heap.size + 1) w ((w.alloc (.cells #[vI G, .slice fa fs.length fcap] 26)).alloc (.cells #[vI G, .slice fa fs.length fcap, vI 0, vI 0] 58))) := Fr.alloc (Fr.alloc (Fr.refl _ w) _) _
  have HP : Hd _ := hP
  have HR : Hd _ := hR
  clear hP hR
  obtain ⟨H, hH⟩ : ∃ H, H = w.heap.size := ⟨_, rfl⟩
  have HH : Hd (H = w.heap.size) := hH
  have HE : Hd (∀ w', Fr (fun k => k = H + 1) w w' → Fr (fun _ => False) w w') := fun w' h => h.mono (fun k hk hS => by have := HH.out; omega)
  obtain ⟨T, HT⟩ : ∃ T, Hd (T = rAll G fs) := ⟨_, rfl⟩
  rw [← HT.out]
  go_enter Tryd.func25, Tryd.ntmps25
  go_upto_region 2 with fail
  rw [← hH] at HFL HIN HP HR HF ⊢
  clear hH
  generalize (w.alloc (.cells #[vI G, .slice fa fs.length fcap] 26)).alloc (.cells #[vI G, .slice fa fs.length fcap, vI 0, vI 0] 58) = wa at *
  have p0 : wa.cell? ⟨H, 0, none⟩ = some (vI G) := by rw [cell_of HP.out]; rfl
  go_cut [] from 11 to 20 (fun wx => Hd (RW (H + 1) G (.slice fa fs.length fcap) wx 0 (rE0 G)) ∧ Hd (wx.heap[H]? = some (.cells #[vI G, .slice fa fs.length fcap] 26)) ∧ Hd (Fr (fun k => k = H + 1) w wx))
  case first =>
    by_cases hg : 0 ≤ G
    · have hq : Hd ((decide (0 ≤ G) && decide (G ≤ 16)) = decide (G ≤ 16)) := by unfold Hd; simp [hg]
      go_wp2_with fail
      refine (rmust (H + 1) G _ wa 0 0 HR.out (decide (G ≤ 16)) 18).mono ?_
      rintro e w2 ⟨rfl, h2, hf2⟩
      have X1 : Hd (RW (H + 1) G (.slice fa fs.length fcap) w2 0 (rE0 G)) := by unfold Hd rE0; rw [hq.out]; exact h2
      have X2 : Hd (w2.heap[H]? = some (.cells #[vI G, .slice fa fs.length fcap] 26)) := (hf2.block H (heap_lt HP.out) (by omega)).trans HP.out
      have X3 : Hd (Fr (fun k => k = H + 1) w w2) := HF.out.trans hf2
      clear h2 hf2
      go_wp2_with fail
      go_meet
      exact ⟨X1, X2, X3⟩
    · have hq : Hd ((decide (0 ≤ G) && decide (G ≤ 16)) = false) := by unfold Hd; simp [hg]
      go_wp2_with fail
      refine (rmust (H + 1) G _ wa 0 0 HR.out false 18).mono ?_
      rintro e w2 ⟨rfl, h2, hf2⟩
      have X1 : Hd (RW (H + 1) G (.slice fa fs.length fcap) w2 0 (rE0 G)) := by unfold Hd rE0; rw [hq.out]; exact h2
      have X2 : Hd (w2.heap[H]? = some (.cells #[vI G, .slice fa fs.length fcap] 26)) := (hf2.block H (heap_lt HP.out) (by omega)).trans HP.out
      have X3 : Hd (Fr (fun k => k = H + 1) w w2) := HF.out.trans hf2
      clear h2 hf2
      go_wp2_with fail
      go_meet
      exact ⟨X1, X2, X3⟩
  case rest =>
  clear HR HP HF p0
  obtain ⟨HR, HP, HF⟩ := hcut
  go_upto_region 3 with fail
  have p1 : wc.cell? ⟨H, 1, none⟩ = some (.slice fa fs.length fcap) := by rw [cell_of HP.out]; rfl
  go_cut [] from 21 to 32 (fun wx => Hd (RW (H + 1) G (.slice fa fs.length fcap) wx 0 (rE1 G fs.length)) ∧ Hd (wx.heap[H]? = some (.cells #[vI G, .slice fa fs.length fcap] 26)) ∧ Hd (Fr (fun k => k = H + 1) w wx))
  case first =>
    by_cases hg : (1 : Int) ≤ fs.length
    · have hq : Hd ((decide ((1 : Int) ≤ fs.length) && decide ((fs.length : Int) ≤ 65535)) = decide ((fs.length : Int) ≤ 65535)) := by unfold Hd; rw [decide_eq_true hg]; rfl
      go_wp2_with fail
      refine (rmust (H + 1) G _ wc 0 (rE0 G) HR.out (decide ((fs.length : Int) ≤ 65535)) 20).mono ?_
      rintro e w2 ⟨rfl, h2, hf2⟩
      have X1 : Hd (RW (H + 1) G (.slice fa fs.length fcap) w2 0 (rE1 G fs.length)) := by unfold Hd rE1; rw [hq.out]; exact h2
      have X2 : Hd (w2.heap[H]? = some (.cells #[vI G, .slice fa fs.length fcap] 26)) := (hf2.block H (heap_lt HP.out) (by omega)).trans HP.out
      have X3 : Hd (Fr (fun k => k = H + 1) w w2) := HF.out.trans hf2
      clear h2 hf2
      go_wp2_with fail
      go_meet
      exact ⟨X1, X2, X3⟩
    · have hq : Hd ((decide ((1 : Int) ≤ fs.length) && decide ((fs.length : Int) ≤ 65535)) = false) := by unfold Hd; rw [decide_eq_false hg]; rfl
      go_wp2_with fail
      refine (rmust (H + 1) G _ wc 0 (rE0 G) HR.out false 20).mono ?_
      rintro e w2 ⟨rfl, h2, hf2⟩
      have X1 : Hd (RW (H + 1) G (.slice fa fs.length fcap) w2 0 (rE1 G fs.length)) := by unfold Hd rE1; rw [hq.out]; exact h2
      have X2 : Hd (w2.heap[H]? = some (.cells #[vI G, .slice fa fs.length fcap] 26)) := (hf2.block H (heap_lt HP.out) (by omega)).trans HP.out
      have X3 : Hd (Fr (fun k => k = H + 1) w w2) := HF.out.trans hf2
      clear h2 hf2
      go_wp2_with fail
      go_meet
      exact ⟨X1, X2, X3⟩
  case rest =>
  clear HR HP HF p1
  obtain ⟨HR, HP, HF⟩ := hcut
  go_upto_block 0 with fail
  go_cut [4] from 33 to 60 (fun x wx => ∃ (L E : Int), Hd (RW (H + 1) G (.slice fa fs.length fcap) wx L E) ∧ Hd (Low L E) ∧ Hd (rHd G fs = (L, E)) ∧ Hd (wx.heap[H]? = some (.cells #[vI G, .slice fa fs.length fcap] 26)) ∧ Hd (Fr (fun k => k = H + 1) w wx))
  case first =>
    go_wp2_with fail
    go_loopw [4] (fun v wx => ∃ (k : Nat) (L E : Int), v = .int .i64 k ∧ k ≤ fs.length ∧ Hd (RW (H + 1) G (.slice fa fs.length fcap) wx L E) ∧ Hd (Low L E) ∧ Hd (rHd G fs = rHeads (fs.drop k) L E) ∧ Hd (wx.heap[H]? = some (.cells #[vI G, .slice fa fs.length fcap] 26)) ∧ Hd (Fr (fun k => k = H + 1) w wx)) (fun v _ => match v with | .int _ q => fs.length - q.toNat | _ => 0)
    case atStart => exact ⟨0, 0, rE1 G fs.length, rfl, Nat.zero_le _, HR, Low.zero _, rfl, HP, HF⟩
    case round =>
      clear HR HP HF
      obtain ⟨k, L, E, rfl, hk, HR, HLO, HRH, HP, HF⟩ := hrel
      have p1 : wr.cell? ⟨H, 1, none⟩ = some (.slice fa fs.length fcap) := by rw [cell_of HP.out]; rfl
      obtain ⟨-, -, -, r3, -, -⟩ := HR.out.cells
      by_cases hlt : k < fs.length
      · by_cases hE : E = 0
        · subst hE
          have hne : fs ≠ [] := by intro e; simp [e] at hlt
          obtain ⟨fk, fo, rfl, hfk, hfb, hfc⟩ := HIN.out hne
          obtain ⟨cv, f0, f1, f2, f3, hcl⟩ := hfc k hlt
          obtain ⟨-, ca, ccap, rfl, -⟩ := hcl
          have gg : ∀ o, wr.cell? ⟨fk, o, none⟩ = w.cell? ⟨fk, o, none⟩ := fun o => HF.out.cell (HH.out ▸ hfk) hfb
          rw [← gg] at f0 f1 f2 f3
          have HST := rHeads_at hlt L
          have HST : Hd _ := HST
          have hk0 : (0 : Int) ≤ k := by omega
          have hk3 : (k : Int) < fs.length := by omega
          clear gg hfc hfk hfb
          generalize fs[k] = f at *
          go_upto_region 7 with fail
          refine wp_region_still_tail 13 mixed (by kernel_rfl) ?_
          simp only [List.take_succ_cons, List.take_zero, List.drop_succ_cons, List.drop_zero]
          repeat still_step
          refine wpStill_nil ?_
          go_wp2_with fail
          refine (show Calls Tryd.prog 55 #[.pointer (some ⟨H + 1, 0, none⟩), .agg #[vI f.P, vI f.R, vI f.V, .slice ca f.code.length ccap], vI f.code.length] wr.drew _ from rhead (H + 1) G _ wr.drew L 0 (HR.out.fr (Fr.drew (Fr.refl (fun _ => False) wr)) (fun h => h)) HLO.out.1 (by have := HLO.out.2 rfl; omega) f.P f.R f.V f.code.length ca f.code.length ccap).mono ?_
          rintro e w2 ⟨rfl, h2, hf2⟩
          have X1 : Hd (RW (H + 1) G (.slice (some ⟨fk, fo, none⟩) fs.length fcap) w2 (headL f.P f.R f.V f.code.length L 0) (headE f.P f.R f.V f.code.length L 0)) := h2
          have X2 : Hd (w2.heap[H]? = some (.cells #[vI G, .slice (some ⟨fk, fo, none⟩) fs.length fcap] 26)) := (hf2.block H (heap_lt HP.out) (by omega)).trans HP.out
          have X3 : Hd (Fr (fun k => k = H + 1) w w2) := HF.out.drew.trans hf2
          have X4 : Hd (Low (headL f.P f.R f.V f.code.length L 0) (headE f.P f.R f.V f.code.length L 0)) := Low.head HLO.out.1
          clear h2 hf2 p1 r3 f0 f1 f2 f3
          go_wp2_with fail
          exact ⟨⟨k + 1, _, _, by simp, by omega, X1, X4, HRH.out.trans HST.out, X2, X3⟩, by simp; omega⟩
        · have hE' : (E == 0) = false := by simpa using hE
          have X4 : Hd (rHd G fs = (L, E)) := HRH.out.trans (rHeads_ne _ L hE)
          go_wp2_with fail
          go_meet
          exact ⟨L, E, HR, HLO, X4, HP, HF⟩
      · have hke : k = fs.length := by omega
        have X4 : Hd (rHd G fs = (L, E)) := by
          refine HRH.out.trans ?_
          rw [hke, List.drop_length]; rfl
        subst hke
        go_wp2_with fail
        go_meet
        exact ⟨L, E, HR, HLO, X4, HP, HF⟩
  case rest =>
  clear HR HP HF
  obtain ⟨L, E, HR, HLO, HRH, HP, HF⟩ := hcut
  have HT2 : Hd (T = rFuncs G fs (fs.drop 0) L E) := by
    unfold Hd; rw [HT.out, List.drop_zero]; unfold rAll; rw [HRH.out]
  clear HT HRH
  go_wp2_with fail
  go_loopw [5] (fun v wx => ∃ (k : Nat) (L E : Int), v = .int .i64 k ∧ k ≤ fs.length ∧ Hd (RW (H + 1) G (.slice fa fs.length fcap) wx L E) ∧ Hd (Low L E) ∧ Hd (T = rFuncs G fs (fs.drop k) L E) ∧ Hd (wx.heap[H]? = some (.cells #[vI G, .slice fa fs.length fcap] 26)) ∧ Hd (Fr (fun k => k = H + 1) w wx)) (fun v _ => match v with | .int _ q => fs.length - q.toNat | _ => 0)
  case atStart => exact ⟨0, L, E, rfl, Nat.zero_le _, HR, HLO, HT2, HP, HF⟩
  case round =>
    clear HR HP HF HLO HT2
    obtain ⟨i, L, E, rfl, hi, HR, HLO, HT, HP, HF⟩ := hrel
    have p1 : wr.cell? ⟨H, 1, none⟩ = some (.slice fa fs.length fcap) := by rw [cell_of HP.out]; rfl
    obtain ⟨-, -, -, r3, -, -⟩ := HR.out.cells
    by_cases hlt : i < fs.length
    · by_cases hE : E = 0
      · subst hE
        have hne : fs ≠ [] := by intro e; simp [e] at hlt
        obtain ⟨fk, fo, rfl, hfk, hfb, hfc⟩ := HIN.out hne
        obtain ⟨cv, f0, f1, f2, f3, hcl⟩ := hfc i hlt
        obtain ⟨hcl0, ca, ccap, rfl, hcc⟩ := hcl
        have gg : ∀ o, wr.cell? ⟨fk, o, none⟩ = w.cell? ⟨fk, o, none⟩ := fun o => HF.out.cell (HH.out ▸ hfk) hfb
        rw [← gg] at f0 f1 f2 f3
        have HST : Hd (rFuncs G fs (fs.drop i) L 0 = _) := rFuncs_at hlt L
        have HCC : Hd _ := hcc
        have hk0 : (0 : Int) ≤ i := by omega
        have hk3 : (i : Int) < fs.length := by omega
        clear gg hfc hfk hfb hcc
        generalize fs[i] = f at *
        have HB : Hd ((wr.alloc (.cells #[vI f.P, vI f.R, vI f.V, .slice ca f.code.length ccap] 67)).heap[wr.heap.size]? = some (.cells #[vI f.P, vI f.R, vI f.V, .slice ca f.code.length ccap] 67)) := heap_new wr _
        have hfa : Fr (fun _ => False) wr (wr.alloc (.cells #[vI f.P, vI f.R, vI f.V, .slice ca f.code.length ccap] 67)) := Fr.alloc (Fr.refl _ wr) _
        have HR2 : Hd (RW (H + 1) G (.slice (some ⟨fk, fo, none⟩) fs.length fcap) (wr.alloc (.cells #[vI f.P, vI f.R, vI f.V, .slice ca f.code.length ccap] 67)) L 0) := HR.out.fr hfa (fun h => h)
        have HP2 : Hd ((wr.alloc (.cells #[vI f.P, vI f.R, vI f.V, .slice ca f.code.length ccap] 67)).heap[H]? = some (.cells #[vI G, (.slice (some ⟨fk, fo, none⟩) fs.length fcap)] 26)) := (hfa.block H (heap_lt HP.out) (fun h => h)).trans HP.out
        have HF2 : Hd (Fr (fun k => k = H + 1) w (wr.alloc (.cells #[vI f.P, vI f.R, vI f.V, .slice ca f.code.length ccap] 67))) := HF.out.trans (hfa.mono (fun _ _ h => h.elim))
        have HLT : Hd (H + 1 < wr.heap.size) := HR.out.cells.2.2.2.2.2
        clear hfa
        go_upto_region 12 with fail
        clear HR HP HF p1 r3 f0 f1 f2 f3
        obtain ⟨Q, hQ⟩ : ∃ Q, Q = wr.heap.size := ⟨_, rfl⟩
        rw [← hQ] at HB HLT ⊢
        clear hQ
        generalize wr.alloc (.cells #[vI f.P, vI f.R, vI f.V, .slice ca f.code.length ccap] 67) = wy at *
        go_wp2_with fail
        go_loopw [7] (fun v wx => ∃ (k : Nat) (L' E : Int), v = .int .i64 k ∧ k ≤ f.code.length ∧ Hd (RW (H + 1) G (.slice (some ⟨fk, fo, none⟩) fs.length fcap) wx L' E) ∧ Hd (Low L' E) ∧ Hd (rCode G fs f.R f.V f.code.length 0 f.code L 0 = rCode G fs f.R f.V f.code.length k (f.code.drop k) L' E) ∧ Hd (wx.heap[Q]? = some (.cells #[vI f.P, vI f.R, vI f.V, .slice ca f.code.length ccap] 67)) ∧ Hd (wx.heap[H]? = some (.cells #[vI G, .slice (some ⟨fk, fo, none⟩) fs.length fcap] 26)) ∧ Hd (Fr (fun k => k = H + 1) w wx)) (fun v _ => match v with | .int _ q => f.code.length - q.toNat | _ => 0)
        case atStart => exact ⟨0, L, 0, rfl, Nat.zero_le _, HR2, HLO, by unfold Hd; rw [List.drop_zero], HB, HP2, HF2⟩
        case round =>
          clear HR2 HP2 HF2 HB HLO
          obtain ⟨k, L', E, rfl, hk, HR, HLO, HRC, HB, HP, HF⟩ := hrel
          have b0 : wr.cell? ⟨Q, 0, none⟩ = some (vI f.P) := by rw [cell_of HB.out]; rfl
          have b1 : wr.cell? ⟨Q, 1, none⟩ = some (vI f.R) := by rw [cell_of HB.out]; rfl
          have b2 : wr.cell? ⟨Q, 2, none⟩ = some (vI f.V) := by rw [cell_of HB.out]; rfl
          have b3 : wr.cell? ⟨Q, 3, none⟩ = some (.slice ca f.code.length ccap) := by rw [cell_of HB.out]; rfl
          obtain ⟨-, -, -, r3, -, -⟩ := HR.out.cells
          by_cases hkt : k < f.code.length
          · by_cases hE : E = 0
            · subst hE
              have hne : f.code ≠ [] := by intro e; simp [e] at hkt
              obtain ⟨ck, co, rfl, hck, hcb, hcc⟩ := HCC.out hne
              obtain ⟨av, rv, q0, q1, q2, q3, q4, q5, q6, hA, hB, hla, hlr⟩ := hcc k hkt
              have gg : ∀ o, wr.cell? ⟨ck, o, none⟩ = w.cell? ⟨ck, o, none⟩ := fun o => HF.out.cell (HH.out ▸ hck) hcb
              rw [← gg] at q0 q1 q2 q3 q4 q5 q6
              have HA := hA.fr HF.out (fun _ h => h)
              have HB2 := hB.fr HF.out (fun _ h => h)
              have HST2 : Hd (rCode G fs f.R f.V f.code.length k (f.code.drop k) L' 0 = _) := rCode_at hkt L'
              generalize f.code[k] = c at *
              obtain ⟨aa, acap, rfl, -⟩ := id hA
              obtain ⟨ra, rcap, rfl, -⟩ := id hB
              have HA : Hd (IL (H + 1) wr (.slice aa c.args.length acap) c.args) := HA
              have HB2 : Hd (IL (H + 1) wr (.slice ra c.rets.length rcap) c.rets) := HB2
              have hk0' : (0 : Int) ≤ k := by omega
              have hk3' : (k : Int) < f.code.length := by omega
              clear gg hcc hck hcb hA hB
              go_upto_region 15 with fail
              refine wp_region_still_tail 13 mixed (by kernel_rfl) ?_
              simp only [List.take_succ_cons, List.take_zero, List.drop_succ_cons, List.drop_zero]
              repeat still_step
              refine wpStill_nil ?_
              go_wp2_with fail
              have hfd : Fr (fun _ => False) wr wr.drew := Fr.drew (Fr.refl _ wr)
              refine (rinstr_any (H + 1) G _ wr.drew L' 0 (HR.out.fr hfd (fun h => h)) HLO.out.1 (by have := HLO.out.2 rfl; omega) fs ((HFL.out.fr HF.out (fun _ h => h)).fr hfd (fun _ h => h.elim)) f.P f.R f.V _ f.code.length ccap c aa ra acap rcap (HA.out.fr hfd (fun _ h => h.elim)) (HB2.out.fr hfd (fun _ h => h.elim)) hla hlr ((k : Int) == (f.code.length : Int) - 1)).mono ?_
              rintro e w2 ⟨rfl, h2, hf2⟩
              have X1 : Hd (RW (H + 1) G (.slice (some ⟨fk, fo, none⟩) fs.length fcap) w2 (opL c.op L') (instrE G fs f.R f.V f.code.length c ((k : Int) == (f.code.length : Int) - 1) L' 0)) := h2
              have X2 : Hd (w2.heap[H]? = some (.cells #[vI G, .slice (some ⟨fk, fo, none⟩) fs.length fcap] 26)) := (hf2.block H (heap_lt HP.out) (by omega)).trans HP.out
              have X6 : Hd (w2.heap[Q]? = some (.cells #[vI f.P, vI f.R, vI f.V, .slice (some ⟨ck, co, none⟩) f.code.length ccap] 67)) := (hf2.block Q (heap_lt HB.out) (by have := HLT.out; omega)).trans HB.out
              have X3 : Hd (Fr (fun k => k = H + 1) w w2) := HF.out.drew.trans hf2
              have X4 : Hd (Low (opL c.op L') (instrE G fs f.R f.V f.code.length c ((k : Int) == (f.code.length : Int) - 1) L' 0)) := Low.instr HLO.out.1
              clear h2 hf2 hfd q0 q1 q2 q3 q4 q5 q6 b0 b1 b2 b3 r3
              go_wp2_with fail
              exact ⟨⟨k + 1, _, _, by simp, by omega, X1, X4, HRC.out.trans HST2.out, X6, X2, X3⟩, by simp; omega⟩
            · have hE' : (E == 0) = false := by simpa using hE
              have X4 : Hd (rCode G fs f.R f.V f.code.length 0 f.code L 0 = (L', E)) := HRC.out.trans (rCode_ne _ _ _ _ _ _ _ L' hE)
              have X5 : Hd (T = rFuncs G fs (fs.drop (i + 1)) L' E) := by
                unfold Hd; rw [HT.out, HST.out, X4.out]
              clear HRC
              go_wp2_with fail
              exact ⟨⟨i + 1, L', E, by simp, by omega, HR, HLO, X5, HP, HF⟩, by simp; omega⟩
          · have hke : k = f.code.length := by omega
            have X4 : Hd (rCode G fs f.R f.V f.code.length 0 f.code L 0 = (L', E)) := by
              refine HRC.out.trans ?_
              rw [hke, List.drop_length]; rfl
            have X5 : Hd (T = rFuncs G fs (fs.drop (i + 1)) L' E) := by
              unfold Hd; rw [HT.out, HST.out, X4.out]
            clear HRC
            subst hke
            go_wp2_with fail
            exact ⟨⟨i + 1, L', E, by simp, by omega, HR, HLO, X5, HP, HF⟩, by simp; omega⟩
      · have hE' : (E == 0) = false := by simpa using hE
        have X4 : Hd (T = (L, E)) := HT.out.trans (rFuncs_ne _ _ _ L hE)
        go_wp2_with fail
        go_ret
        exact ⟨by rw [X4.out]; rfl, HE.out _ HF.out⟩
    · have hke : i = fs.length := by omega
      have X4 : Hd (T = (L, E)) := by
        refine HT.out.trans ?_
        rw [hke, List.drop_length]; rfl
      subst hke
      go_wp2_with fail
      go_ret
      exact ⟨by rw [X4.out]; rfl, HE.out _ HF.out⟩

end Go.Proofs.YtingenonbkencaaDoor

namespace Go.Proofs.YtingenonbkencaaDoor
open Go.RowKit (wrap32 wrap64)
set_option linter.unusedVariables false
set_option linter.unusedSimpArgs false

def c6 : List PI → Int
  | [] => 0
  | c :: cs => (if c.op = 6 then 1 else 0) + c6 cs
def sV : List PF → Int
  | [] => 0
  | f :: fs => f.V + sV fs
def s6 : List PF → Int
  | [] => 0
  | f :: fs => c6 f.code + s6 fs
def lS : List PF → Int
  | [] => 0
  | f :: fs => f.V + c6 f.code + lS fs
theorem lS_eq : ∀ fs : List PF, lS fs = sV fs + s6 fs
  | [] => rfl
  | f :: fs => by show _ = (f.V + sV fs) + (c6 f.code + s6 fs); rw [show lS (f :: fs) = f.V + c6 f.code + lS fs from rfl, lS_eq fs]; omega
theorem c6_ge : ∀ cs : List PI, 0 ≤ c6 cs
  | [] => Int.le_refl 0
  | c :: cs => by have := c6_ge cs; show 0 ≤ (if c.op = 6 then 1 else 0) + c6 cs; split <;> omega
theorem lS_ge : ∀ fs : List PF, (∀ f ∈ fs, 0 ≤ f.V) → 0 ≤ lS fs
  | [], _ => Int.le_refl 0
  | f :: fs, h => by
    have h1 := lS_ge fs (fun x hx => h x (List.mem_cons_of_mem _ hx))
    have h2 := h f (List.mem_cons_self)
    have h3 := c6_ge f.code
    show 0 ≤ f.V + c6 f.code + lS fs
    omega

theorem rHeads_ok : ∀ (fs : List PF) (L E : Int), (rHeads fs L E).2 = 0 → E = 0 ∧ (rHeads fs L E).1 = L + sV fs ∧ ∀ f ∈ fs, 0 ≤ f.V
  | [], L, E, h => ⟨h, by show L = L + 0; omega, fun f hf => by cases hf⟩
  | f :: fs, L, E, h => by
    by_cases hE : E = 0
    · subst hE
      have h : (rHeads fs (headL f.P f.R f.V f.code.length L 0) (headE f.P f.R f.V f.code.length L 0)).2 = 0 := h
      obtain ⟨h1, h2, h3⟩ := rHeads_ok fs _ _ h
      have h4 : headE2 f.P f.R f.V f.code.length 0 = 0 := (mustE_zero (by decide) h1).2
      have h5 : headL f.P f.R f.V f.code.length L 0 = L + f.V := by unfold headL; rw [if_pos h4]
      have h6 := (mustE_zero (by decide) (mustE_zero (by decide) h4).2).1
      unfold smallB at h6
      simp at h6
      refine ⟨rfl, ?_, fun x hx => ?_⟩
      · show (rHeads fs (headL f.P f.R f.V f.code.length L 0) (headE f.P f.R f.V f.code.length L 0)).1 = L + (f.V + sV fs)
        rw [h2, h5]; omega
      · rcases List.mem_cons.1 hx with rfl | hx
        · omega
        · exact h3 x hx
    · rw [rHeads_ne _ _ hE] at h; exact absurd h hE
theorem rCode_ok (G : Int) (FS : List PF) (R V : Int) (fl : Nat) : ∀ (cs : List PI) (i : Nat) (L E : Int), (rCode G FS R V fl i cs L E).2 = 0 → E = 0 ∧ (rCode G FS R V fl i cs L E).1 = L + c6 cs
  | [], i, L, E, h => ⟨h, by show L = L + 0; omega⟩
  | c :: cs, i, L, E, h => by
    by_cases hE : E = 0
    · subst hE
      obtain ⟨h1, h2⟩ := rCode_ok G FS R V fl cs (i + 1) _ _ (show (rCode G FS R V fl (i + 1) cs (opL c.op L) (instrE G FS R V fl c ((i : Int) == (fl : Int) - 1) L 0)).2 = 0 from h)
      refine ⟨rfl, ?_⟩
      show (rCode G FS R V fl (i + 1) cs (opL c.op L) (instrE G FS R V fl c ((i : Int) == (fl : Int) - 1) L 0)).1 = L + ((if c.op = 6 then 1 else 0) + c6 cs)
      rw [h2]; unfold opL; split <;> omega
    · rw [rCode_ne _ _ _ _ _ _ _ _ hE] at h; exact absurd h hE
theorem rFuncs_ok (G : Int) (FS : List PF) : ∀ (fs : List PF) (L E : Int), (rFuncs G FS fs L E).2 = 0 → E = 0 ∧ (rFuncs G FS fs L E).1 = L + s6 fs
  | [], L, E, h => ⟨h, by show L = L + 0; omega⟩
  | f :: fs, L, E, h => by
    by_cases hE : E = 0
    · subst hE
      obtain ⟨h1, h2⟩ := rFuncs_ok G FS fs _ _ (show (rFuncs G FS fs (rCode G FS f.R f.V f.code.length 0 f.code L 0).1 (rCode G FS f.R f.V f.code.length 0 f.code L 0).2).2 = 0 from h)
      obtain ⟨-, h3⟩ := rCode_ok G FS f.R f.V f.code.length f.code 0 L 0 h1
      refine ⟨rfl, ?_⟩
      show (rFuncs G FS fs (rCode G FS f.R f.V f.code.length 0 f.code L 0).1 (rCode G FS f.R f.V f.code.length 0 f.code L 0).2).1 = L + (c6 f.code + s6 fs)
      rw [h2, h3]; omega
    · rw [rFuncs_ne _ _ _ _ hE] at h; exact absurd h hE
theorem Low.heads : ∀ (fs : List PF) (L E : Int), Low L E → Low (rHeads fs L E).1 (rHeads fs L E).2
  | [], _, _, h => h
  | f :: fs, L, E, h => by
    by_cases hE : E = 0
    · subst hE; exact Low.heads fs _ _ (Low.head h.1)
    · rw [rHeads_ne _ _ hE]; exact h
theorem Low.code (G : Int) (FS : List PF) (R V : Int) (fl : Nat) : ∀ (cs : List PI) (i : Nat) (L E : Int), Low L E → Low (rCode G FS R V fl i cs L E).1 (rCode G FS R V fl i cs L E).2
  | [], _, _, _, h => h
  | c :: cs, i, L, E, h => by
    by_cases hE : E = 0
    · subst hE; exact Low.code G FS R V fl cs (i + 1) _ _ (Low.instr h.1)
    · rw [rCode_ne _ _ _ _ _ _ _ _ hE]; exact h
theorem Low.funcs (G : Int) (FS : List PF) : ∀ (fs : List PF) (L E : Int), Low L E → Low (rFuncs G FS fs L E).1 (rFuncs G FS fs L E).2
  | [], _, _, h => h
  | f :: fs, L, E, h => by
    by_cases hE : E = 0
    · subst hE; exact Low.funcs G FS fs _ _ (Low.code G FS _ _ _ _ _ _ _ h)
    · rw [rFuncs_ne _ _ _ _ hE]; exact h
theorem rAll_ok {G : Int} {fs : List PF} (h : (rAll G fs).2 = 0) : (rAll G fs).1 = lS fs ∧ (∀ f ∈ fs, 0 ≤ f.V) ∧ lS fs + 1 ≤ 1048576 ∧ fs.length ≤ 65535 := by
  obtain ⟨h1, h2⟩ := rFuncs_ok G fs fs _ _ h
  obtain ⟨h3, h4, h5⟩ := rHeads_ok fs 0 _ h1
  have h6 : (rAll G fs).1 = lS fs := by
    rw [lS_eq]
    show (rFuncs G fs fs (rHd G fs).1 (rHd G fs).2).1 = _
    rw [h2]
    show (rHeads fs 0 (rE1 G fs.length)).1 + s6 fs = _
    rw [h4]; omega
  have h7 := (Low.funcs G fs fs _ _ (Low.heads fs 0 (rE1 G fs.length) (Low.zero _))).2 h
  have h7 : (rAll G fs).1 + 1 ≤ 1048576 := h7
  have h8 := (mustE_zero (by decide) h3).1
  simp at h8
  exact ⟨h6, h5, by omega, by omega⟩

def rLocs (G : Int) (fs : List PF) : Int := if (rAll G fs).2 = 0 then (rAll G fs).1 + 1 else 0

set_option maxRecDepth 100000 in
set_option maxHeartbeats 4000000 in
/-- The document's Locations of any program. -/
theorem rlocations_any (w : World) (G : Int) (fs : List PF) (fv : Value) (hl : FL (w.heap.size + 2) w fv fs) :
    Calls Tryd.prog 26 #[.agg #[vI G, fv]] w fun e w' => e = .returned (vI (rLocs G fs)) ∧ Fr (fun _ => False) w w' := by
  have hfa : Fr (fun _ => False) w (w.alloc (.cells #[vI G, fv] 26)) := Fr.alloc (Fr.refl _ w) _
  have HFL : Hd (FL ((w.alloc (.cells #[vI G, fv] 26)).heap.size + 1) (w.alloc (.cells #[vI G, fv] 26)) fv fs) := by
    have := hl.fr hfa (fun _ h => h.elim)
    unfold Hd
    simpa using this
  obtain ⟨hlen, fa, fcap, rfl, hin⟩ := hl
  have HIN : Hd _ := hin
  clear hin
  have HP : Hd ((w.alloc (.cells #[vI G, .slice fa fs.length fcap] 26)).heap[w.heap.size]? = some (.cells #[vI G, .slice fa fs.length fcap] 26)) := heap_new w _
  have HF : Hd (Fr (fun _ => False) w (w.alloc (.cells #[vI G, .slice fa fs.length fcap] 26))) := hfa
  clear hfa
  obtain ⟨H, hH⟩ : ∃ H, H = w.heap.size := ⟨_, rfl⟩
  have HH : Hd (H = w.heap.size) := hH
  go_enter Tryd.func26, Tryd.ntmps26
  go_upto_region 1 with fail
  rw [← hH] at HP HIN ⊢
  clear hH
  generalize w.alloc (.cells #[vI G, .slice fa fs.length fcap] 26) = wa at *
  have p0 : wa.cell? ⟨H, 0, none⟩ = some (vI G) := by rw [cell_of HP.out]; rfl
  have p1 : wa.cell? ⟨H, 1, none⟩ = some (.slice fa fs.length fcap) := by rw [cell_of HP.out]; rfl
  go_wp2_with fail
  refine (rcheck_any wa G fs _ HFL.out).mono ?_
  rintro e w1 ⟨rfl, hf1⟩
  have HF1 : Hd (Fr (fun _ => False) w w1) := HF.out.trans hf1
  have HP1 : Hd (w1.heap[H]? = some (.cells #[vI G, .slice fa fs.length fcap] 26)) := (hf1.block H (heap_lt HP.out) (fun h => h)).trans HP.out
  clear HP HF hf1 p0 p1 HFL
  by_cases hE : (rAll G fs).2 = 0
  · have HZ : Hd (rLocs G fs = lS fs + 1) := by unfold Hd rLocs; rw [if_pos hE, (rAll_ok hE).1]
    have HV : Hd (∀ f ∈ fs, 0 ≤ f.V) := (rAll_ok hE).2.1
    have HM : Hd (lS fs + 1 ≤ 1048576) := (rAll_ok hE).2.2.1
    rw [hE]
    clear hE
    go_wp2_with fail
    go_loopw [3, 4] (fun x v wx => ∃ (k : Nat) (z : Int), x = .int .i64 z ∧ v = .int .i64 k ∧ k ≤ fs.length ∧ 0 ≤ z ∧ Hd (z + lS (fs.drop k) = lS fs + 1) ∧ Hd (wx.heap[H]? = some (.cells #[vI G, .slice fa fs.length fcap] 26)) ∧ Hd (Fr (fun _ => False) w wx)) (fun _ v _ => match v with | .int _ q => fs.length - q.toNat | _ => 0)
    case atStart => exact ⟨0, 1, rfl, rfl, Nat.zero_le _, by omega, by unfold Hd; rw [List.drop_zero]; omega, HP1, HF1⟩
    case round =>
      clear HP1 HF1
      obtain ⟨i, z, rfl, rfl, hi, hz, HS, HP, HF⟩ := hrel
      have p1 : wr.cell? ⟨H, 1, none⟩ = some (.slice fa fs.length fcap) := by rw [cell_of HP.out]; rfl
      by_cases hlt : i < fs.length
      · have hne : fs ≠ [] := by intro e; simp [e] at hlt
        obtain ⟨fk, fo, rfl, hfk, hfb, hfc⟩ := HIN.out hne
        obtain ⟨cv, f0, f1, f2, f3, hcl⟩ := hfc i hlt
        obtain ⟨hcl0, ca, ccap, rfl, hcc⟩ := hcl
        have HCF : Hd (∀ wx, Fr (fun _ => False) w wx → ∀ o, wx.cell? ⟨fk, o, none⟩ = w.cell? ⟨fk, o, none⟩) := fun wx h o => h.cell (HH.out ▸ hfk) (fun h => h)
        have F2 : Hd _ := f2
        have F3 : Hd _ := f3
        rw [← HCF.out wr HF.out] at f2
        have HD : Hd (lS (fs.drop i) = fs[i].V + c6 fs[i].code + lS (fs.drop (i + 1))) := by unfold Hd; rw [List.drop_eq_getElem_cons hlt]; rfl
        have hV := HV.out _ (List.getElem_mem hlt)
        have HLG : Hd (0 ≤ lS (fs.drop (i + 1))) := lS_ge _ (fun f hf => HV.out f (List.mem_of_mem_drop hf))
        have HCC : Hd _ := hcc
        have hk0 : (0 : Int) ≤ i := by omega
        have hk3 : (i : Int) < fs.length := by omega
        clear hfc hfk hfb hcc f0 f1 f3
        generalize fs[i] = f at *
        have hzz : z + f.V ≤ 1048576 := by
          have h1 := c6_ge f.code
          have h2 := HS.out
          have h3 := HD.out
          have h4 := HM.out
          have h5 := HLG.out
          omega
        have HS2 : Hd ((z + f.V) + c6 f.code + lS (fs.drop (i + 1)) = lS fs + 1) := by
          have h2 := HS.out
          have h3 := HD.out
          unfold Hd
          omega
        have hzv : 0 ≤ z + f.V := by omega
        go_upto_region 8 with fail
        clear HS HD p1 f2
        generalize z + f.V = y at *
        clear hV hz
        go_wp2_with fail
        go_loopw [3, 5] (fun x v wx => ∃ (k : Nat) (z : Int), x = .int .i64 z ∧ v = .int .i64 k ∧ k ≤ f.code.length ∧ 0 ≤ z ∧ Hd (z + c6 (f.code.drop k) + lS (fs.drop (i + 1)) = lS fs + 1) ∧ Hd (wx.heap[H]? = some (.cells #[vI G, .slice (some ⟨fk, fo, none⟩) fs.length fcap] 26)) ∧ Hd (Fr (fun _ => False) w wx)) (fun _ v _ => match v with | .int _ q => f.code.length - q.toNat | _ => 0)
        case atStart => exact ⟨0, y, rfl, rfl, Nat.zero_le _, by omega, by unfold Hd; rw [List.drop_zero]; exact HS2.out, HP, HF⟩
        case round =>
          clear HP HF HS2 hzz hzv
          obtain ⟨k, z, rfl, rfl, hk, hz, HS, HP, HF⟩ := hrel
          have p1 : wr.cell? ⟨H, 1, none⟩ = some (.slice (some ⟨fk, fo, none⟩) fs.length fcap) := by rw [cell_of HP.out]; rfl
          have f3 := (HCF.out wr HF.out _).trans F3.out
          by_cases hkt : k < f.code.length
          · have hne : f.code ≠ [] := by intro e; simp [e] at hkt
            obtain ⟨ck, co, rfl, hck, hcb, hcc⟩ := HCC.out hne
            obtain ⟨av, rv, q0, -⟩ := hcc k hkt
            have gg : ∀ o, wr.cell? ⟨ck, o, none⟩ = w.cell? ⟨ck, o, none⟩ := fun o => HF.out.cell (HH.out ▸ hck) (fun h => h)
            rw [← gg] at q0
            have HD : Hd (c6 (f.code.drop k) = (if f.code[k].op = 6 then 1 else 0) + c6 (f.code.drop (k + 1))) := by unfold Hd; rw [List.drop_eq_getElem_cons hkt]; rfl
            have HCG : Hd (0 ≤ c6 (f.code.drop (k + 1))) := c6_ge _
            have hk0' : (0 : Int) ≤ k := by omega
            have hk3' : (k : Int) < f.code.length := by omega
            clear gg hcc hck hcb
            generalize f.code[k].op = op at *
            by_cases h6 : op = 6
            · subst h6
              have hzz : z + 1 ≤ 1048576 := by
                have h1 := HS.out; have h2 := HD.out; have h3 := HCG.out; have h4 := HLG.out; have h5 := HM.out
                rw [if_pos rfl] at h2
                omega
              have HS2 : Hd ((z + 1) + c6 (f.code.drop (k + 1)) + lS (fs.drop (i + 1)) = lS fs + 1) := by
                have h1 := HS.out; have h2 := HD.out
                rw [if_pos rfl] at h2
                unfold Hd; omega
              clear HS HD
              go_wp2_with fail
              exact ⟨⟨k + 1, z + 1, by simp, by simp, by omega, by omega, HS2, HP, HF⟩, by simp; omega⟩
            · have h6' : (op == 6) = false := by simpa using h6
              have HS2 : Hd (z + c6 (f.code.drop (k + 1)) + lS (fs.drop (i + 1)) = lS fs + 1) := by
                have h1 := HS.out; have h2 := HD.out
                rw [if_neg h6] at h2
                unfold Hd; omega
              clear HS HD
              go_wp2_with fail
              exact ⟨⟨k + 1, z, by simp, by simp, by omega, by omega, HS2, HP, HF⟩, by simp; omega⟩
          · have hke : k = f.code.length := by omega
            have HS2 : Hd (z + lS (fs.drop (i + 1)) = lS fs + 1) := by
              have h1 := HS.out
              rw [hke, List.drop_length] at h1
              have h1 : z + 0 + lS (fs.drop (i + 1)) = lS fs + 1 := h1
              unfold Hd; omega
            subst hke
            clear HS
            go_wp2_with fail
            exact ⟨⟨i + 1, z, by simp, by simp, by omega, by omega, HS2, HP, HF⟩, by simp; omega⟩
      · have hke : i = fs.length := by omega
        have HZ2 : Hd (rLocs G fs = z) := by
          have h1 := HS.out
          rw [hke, List.drop_length] at h1
          have h1 : z + 0 = lS fs + 1 := h1
          unfold Hd; rw [HZ.out]; omega
        subst hke
        go_wp2_with fail
        go_ret
        exact ⟨by rw [HZ2.out]; rfl, HF.out⟩
  · have hE' : ((rAll G fs).2 == 0) = false := by simpa using hE
    have hE'' : ((rAll G fs).2 != 0) = true := by simpa using hE
    have HZ : Hd (rLocs G fs = 0) := by unfold Hd rLocs; rw [if_neg hE]
    generalize (rAll G fs).2 = ee at *
    go_wp2_with fail
    go_ret
    exact ⟨by rw [HZ.out]; rfl, HF1.out⟩

end Go.Proofs.YtingenonbkencaaDoor
