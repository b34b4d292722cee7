import Derived.Test.YtingenonbkencaaDoorQLcJ
set_option linter.unusedVariables false
set_option linter.unusedSimpArgs false
namespace Go.Proofs.YtingenonbkencaaDoor
open Go.RowKit (wrap32 wrap64)
set_option maxRecDepth 100000
set_option maxHeartbeats 4000000
theorem WF.stay {w w' : World} {B : Nat} {v : Value} {fs : List PF} {g : Nat} {cv : Nat → Value} (h : WF w B v fs g cv) (f : Fr (fun _ => False) w w') : WF w' B v fs g cv :=
  ⟨h.val, h.ge, h.row.fr f (fun e => e), fun i x hx => (h.code i x hx).stay f, h.apart⟩
theorem WF.fa {w : World} {B : Nat} {v : Value} {fs : List PF} {g : Nat} {cv : Nat → Value} (h : WF w B v fs g cv) : FA w v fs := by
  refine ⟨_, _, h.val, fun _ => ⟨g, 0, rfl, h.row.lt, fun j hj => ?_⟩⟩
  have pc := fun o (ho : o < 4) => h.row.cell (i := j) (o := o) (by omega) ho
  have e1 : wideF fs cv j = fR fs[j] (cv j) := by unfold wideF; rw [List.getElem?_eq_getElem hj]
  rw [e1] at pc
  rw [Nat.zero_add]
  exact ⟨cv j, pc 0 (by omega), pc 1 (by omega), pc 2 (by omega), pc 3 (by omega), (h.code j fs[j] (List.getElem?_eq_getElem hj)).ca⟩
theorem spareProgram_any (G : Int) (v : Value) (fs : List PF) (B g : Nat) (cv : Nat → Value) (w : World) (hl : WF w B v fs g cv) (hn : FineP fs) : Calls Tryd.prog 24 #[.agg #[vI G, v]] w fun e w' => e = .returned (.bool true) ∧ Fr (fun _ => False) w w' := by
  have hv := hl.val
  subst hv
  have hF1 : Fr (fun _ => False) w (w.alloc (.cells #[vI G, .slice (some ⟨g, 0, none⟩) fs.length (fs.length + 64)] 26)) := Fr.alloc (Fr.refl _ w) _
  have b1 : (w.alloc (.cells #[vI G, .slice (some ⟨g, 0, none⟩) fs.length (fs.length + 64)] 26)).heap[w.heap.size]? = some (.cells #[vI G, .slice (some ⟨g, 0, none⟩) fs.length (fs.length + 64)] 26) := heap_new w _
  have HF1 : Hd _ := hF1
  have HL : Hd (WF (w.alloc (.cells #[vI G, .slice (some ⟨g, 0, none⟩) fs.length (fs.length + 64)] 26)) B (.slice (some ⟨g, 0, none⟩) fs.length (fs.length + 64)) fs g cv) := hl.stay hF1
  have q1 : (w.alloc (.cells #[vI G, .slice (some ⟨g, 0, none⟩) fs.length (fs.length + 64)] 26)).cell? ⟨w.heap.size, 1, none⟩ = some (.slice (some ⟨g, 0, none⟩) fs.length (fs.length + 64)) := by rw [cell_of b1]; rfl
  have HFI : Hd (FineP fs) := hn
  have hn := hn.1
  clear hF1 b1 hl
  obtain ⟨n, hnl⟩ : ∃ n, n = fs.length := ⟨_, rfl⟩
  have HN : Hd (n = fs.length) := hnl
  rw [← hnl] at hn HL q1 HF1 ⊢
  clear hnl
  have hn0 : (0 : Int) ≤ (n : Int) + 64 := by omega
  have hn1 : (n : Int) + 64 ≤ ((n + 64 : Nat) : Int) := by omega
  have ht : ((n : Int) + 64).toNat = n + 64 := by omega
  obtain ⟨H, hH⟩ : ∃ H, H = w.heap.size := ⟨_, rfl⟩
  have HH : Hd (H = w.heap.size) := hH
  rw [← hH] at q1
  clear hH
  go_enter Tryd.func24, Tryd.ntmps24
  go_upto_region 1 with fail
  rw [← HH.out]
  generalize w.alloc (.cells #[vI G, .slice (some ⟨g, 0, none⟩) n (n + 64)] 26) = wa at *
  go_wp2_with fail
  go_loopw [4] (fun v wr => ∃ (k : Nat), v = .int .i64 k ∧ k ≤ n + 64 ∧ wr = wa) (fun v _ => match v with | .int _ q => n + 64 - q.toNat | _ => 0)
  case atStart => exact ⟨0, rfl, by omega, rfl⟩
  case round =>
    obtain ⟨k, rfl, hk, hwr⟩ := hrel
    subst hwr
    by_cases hlt : k < n + 64
    · have hk0 : (0 : Int) ≤ k := by omega
      have hk1 : (k : Int) < (n : Int) + 64 := by omega
      have hk3 : (k : Int) < ((n + 64 : Nat) : Int) := by omega
      have hkl : k < fs.length + 64 := by have := HN.out; omega
      have pc := fun o (ho : o < 4) => HL.out.row.cell (i := k) (o := o) hkl ho
      by_cases hin : k < n
      · have d1 : decide ((k : Int) < n) = true := by simp; omega
        have d2 : decide ((k : Int) ≥ n) = false := by simp; omega
        have hkc : k < fs.length := by have := HN.out; omega
        have e1 : wideF fs cv k = fR fs[k] (cv k) := by unfold wideF; rw [List.getElem?_eq_getElem hkc]
        rw [e1] at pc
        have p3 := pc 3 (by omega)
        simp only [List.getD_cons_zero, List.getD_cons_succ] at p3
        have HA : Hd (WC wr B (cv k) fs[k].code) := HL.out.code k fs[k] (List.getElem?_eq_getElem hkc)
        have HC : Hd (FineC fs[k].code) := HFI.out.2 _ (List.getElem_mem hkc)
        generalize fs[k] = f at *
        generalize cv k = x1 at *
        obtain ⟨g1, ps1, e1, -⟩ := id HA.out
        subst e1
        clear pc
        go_wp2_with fail
        refine (show Calls Tryd.prog 53 #[.slice (some ⟨g1, 0, none⟩) f.code.length (f.code.length + 64)] wr _ from spareCode_any _ f.code B wr HA.out HC.out).mono ?_
        rintro e w1 ⟨rfl, hw1⟩
        subst hw1
        go_wp2_with fail
        exact ⟨⟨k + 1, by simp, by omega, by trivial⟩, by simp; omega⟩
      · have d1 : decide ((k : Int) < n) = false := by simp; omega
        have d2 : decide ((k : Int) ≥ n) = true := by simp; omega
        have e1 : wideF fs cv k = markF := by unfold wideF; rw [List.getElem?_eq_none (by have := HN.out; omega)]
        rw [e1] at pc
        have p2 := pc 2 (by omega)
        have p3 := pc 3 (by omega)
        simp only [Nat.add_zero, List.getD_cons_zero, List.getD_cons_succ] at p2 p3
        clear pc
        go_wp2_with fail
        exact ⟨⟨k + 1, by simp, by omega, by trivial⟩, by simp; omega⟩
    · have hke : k = n + 64 := by omega
      subst hke
      go_wp2_with fail
      go_ret
      exact ⟨rfl, HF1.out⟩
set_option maxRecDepth 100000
set_option maxHeartbeats 2000000
theorem eqInstr_same (c : PI) (x1 y1 x2 y2 : Value) (w : World) (h1 : IA w x1 c.args) (h2 : IA w y1 c.rets) (h3 : IA w x2 c.args) (h4 : IA w y2 c.rets) (hla : c.args.length ≤ 17592186043904) (hlr : c.rets.length ≤ 17592186043904) :
    Calls Tryd.prog 102 #[.agg #[vI c.op, vI c.r, vI c.s, vI c.t, vI c.n, x1, y1], .agg #[vI c.op, vI c.r, vI c.s, vI c.t, vI c.n, x2, y2]] w fun e w' => e = .returned (.bool true) ∧ Fr (fun _ => False) w w' := by
  obtain ⟨a1, b1, e1, -⟩ := id h1
  obtain ⟨a2, b2, e2, -⟩ := id h2
  obtain ⟨a3, b3, e3, -⟩ := id h3
  obtain ⟨a4, b4, e4, -⟩ := id h4
  have hF : Fr (fun _ => False) w ((w.alloc (.cells #[vI c.op, vI c.r, vI c.s, vI c.t, vI c.n, x1, y1] 71)).alloc (.cells #[vI c.op, vI c.r, vI c.s, vI c.t, vI c.n, x2, y2] 71)) := Fr.alloc (Fr.alloc (Fr.refl _ w) _) _
  have HB1 : Hd (((w.alloc (.cells #[vI c.op, vI c.r, vI c.s, vI c.t, vI c.n, x1, y1] 71)).alloc (.cells #[vI c.op, vI c.r, vI c.s, vI c.t, vI c.n, x2, y2] 71)).heap[w.heap.size]? = some (.cells #[vI c.op, vI c.r, vI c.s, vI c.t, vI c.n, x1, y1] 71)) := by
    unfold Hd; rw [Go.RowKit.Below.heap_alloc _ _ _ (by simp)]; exact heap_new w _
  have HB2 : Hd (((w.alloc (.cells #[vI c.op, vI c.r, vI c.s, vI c.t, vI c.n, x1, y1] 71)).alloc (.cells #[vI c.op, vI c.r, vI c.s, vI c.t, vI c.n, x2, y2] 71)).heap[w.heap.size + 1]? = some (.cells #[vI c.op, vI c.r, vI c.s, vI c.t, vI c.n, x2, y2] 71)) := by
    unfold Hd; rw [show w.heap.size + 1 = (w.alloc (.cells #[vI c.op, vI c.r, vI c.s, vI c.t, vI c.n, x1, y1] 71)).heap.size by simp]; exact heap_new _ _
  have H1 := h1.stay hF
  have H2 := h2.stay hF
  have H3 := h3.stay hF
  have H4 := h4.stay hF
  have G1 : Hd _ := H1
  have G2 : Hd _ := H2
  have G3 : Hd _ := H3
  have G4 : Hd _ := H4
  have HF : Hd _ := hF
  clear h1 h2 h3 h4 H1 H2 H3 H4 hF
  subst e1; subst e2; subst e3; subst e4
  have q0 : (c.op == c.op) = true := by simp
  have q1 : (c.r == c.r) = true := by simp
  have q2 : (c.s == c.s) = true := by simp
  have q3 : (c.t == c.t) = true := by simp
  have q4 : (c.n == c.n) = true := by simp
  go_enter Tryd.func102, Tryd.ntmps102
  go_upto_region 1 with fail
  generalize (w.alloc (.cells #[vI c.op, vI c.r, vI c.s, vI c.t, vI c.n, .slice a1 c.args.length b1, .slice a2 c.rets.length b2] 71)).alloc (.cells #[vI c.op, vI c.r, vI c.s, vI c.t, vI c.n, .slice a3 c.args.length b3, .slice a4 c.rets.length b4] 71) = wa at *
  have c0 : wa.cell? ⟨w.heap.size, 0, none⟩ = some (vI c.op) := by rw [cell_of HB1.out]; rfl
  have c1 : wa.cell? ⟨w.heap.size, 1, none⟩ = some (vI c.r) := by rw [cell_of HB1.out]; rfl
  have c2 : wa.cell? ⟨w.heap.size, 2, none⟩ = some (vI c.s) := by rw [cell_of HB1.out]; rfl
  have c3 : wa.cell? ⟨w.heap.size, 3, none⟩ = some (vI c.t) := by rw [cell_of HB1.out]; rfl
  have c4 : wa.cell? ⟨w.heap.size, 4, none⟩ = some (vI c.n) := by rw [cell_of HB1.out]; rfl
  have c5 : wa.cell? ⟨w.heap.size, 5, none⟩ = some (.slice a1 c.args.length b1) := by rw [cell_of HB1.out]; rfl
  have d0 : wa.cell? ⟨w.heap.size + 1, 0, none⟩ = some (vI c.op) := by rw [cell_of HB2.out]; rfl
  have d1 : wa.cell? ⟨w.heap.size + 1, 1, none⟩ = some (vI c.r) := by rw [cell_of HB2.out]; rfl
  have d2 : wa.cell? ⟨w.heap.size + 1, 2, none⟩ = some (vI c.s) := by rw [cell_of HB2.out]; rfl
  have d3 : wa.cell? ⟨w.heap.size + 1, 3, none⟩ = some (vI c.t) := by rw [cell_of HB2.out]; rfl
  have d4 : wa.cell? ⟨w.heap.size + 1, 4, none⟩ = some (vI c.n) := by rw [cell_of HB2.out]; rfl
  have d5 : wa.cell? ⟨w.heap.size + 1, 5, none⟩ = some (.slice a3 c.args.length b3) := by rw [cell_of HB2.out]; rfl
  go_wp2_with fail
  refine (show Calls Tryd.prog 105 #[.slice a1 c.args.length b1, .slice a3 c.args.length b3] wa _ from eqInts_same _ _ c.args wa G1.out G3.out hla).mono ?_
  rintro e w1 ⟨rfl, hF1⟩
  have G2' : Hd (IA w1 (.slice a2 c.rets.length b2) c.rets) := IA.stay G2.out hF1
  have G4' : Hd (IA w1 (.slice a4 c.rets.length b4) c.rets) := IA.stay G4.out hF1
  have p6 : w1.cell? ⟨w.heap.size, 6, none⟩ = some (.slice a2 c.rets.length b2) := by rw [hF1.cell (heap_lt HB1.out) (fun e => e), cell_of HB1.out]; rfl
  have r6 : w1.cell? ⟨w.heap.size + 1, 6, none⟩ = some (.slice a4 c.rets.length b4) := by rw [hF1.cell (heap_lt HB2.out) (fun e => e), cell_of HB2.out]; rfl
  have HF1 : Hd (Fr (fun _ => False) w w1) := HF.out.trans hF1
  clear hF1 c0 c1 c2 c3 c4 c5 d0 d1 d2 d3 d4 d5 HB1 HB2
  go_wp2_with fail
  refine (show Calls Tryd.prog 105 #[.slice a2 c.rets.length b2, .slice a4 c.rets.length b4] w1 _ from eqInts_same _ _ c.rets w1 G2'.out G4'.out hlr).mono ?_
  rintro e w2 ⟨rfl, hF2⟩
  have HF2 : Hd (Fr (fun _ => False) w w2) := HF1.out.trans hF2
  clear hF2
  go_wp2_with fail
  go_ret
  exact ⟨rfl, HF2.out⟩
theorem eqCode_same (v1 v2 : Value) (cs : List PI) (w : World) (h1 : CA w v1 cs) (h2 : CA w v2 cs) (hn : FineC cs) :
    Calls Tryd.prog 95 #[v1, v2] w fun e w' => e = .returned (.bool true) ∧ Fr (fun _ => False) w w' := by
  obtain ⟨a1, c1, rfl, hc1⟩ := h1
  obtain ⟨a2, c2, rfl, hc2⟩ := h2
  have H1 : Hd _ := hc1
  have H2 : Hd _ := hc2
  have HFI : Hd (FineC cs) := hn
  have hz := hn.1
  clear hc1 hc2 hn
  go_enter Tryd.func95, Tryd.ntmps95
  go_wp2_with fail
  go_loopw [5] (fun v wr => ∃ (k : Nat), v = .int .i64 k ∧ k ≤ cs.length ∧ Hd (Fr (fun _ => False) w wr)) (fun v _ => match v with | .int _ q => cs.length - q.toNat | _ => 0)
  case atStart => exact ⟨0, rfl, Nat.zero_le _, Fr.refl _ _⟩
  case round =>
    obtain ⟨k, rfl, hk, HF⟩ := hrel
    by_cases hlt : k < cs.length
    · have hne : cs ≠ [] := by intro e; simp [e] at hlt
      obtain ⟨k1, o1, rfl, hk1, g1⟩ := H1.out hne
      obtain ⟨k2, o2, rfl, hk2, g2⟩ := H2.out hne
      obtain ⟨x1, y1, p0, p1, p2, p3, p4, p5, p6, ix1, iy1⟩ := g1 k hlt
      obtain ⟨x2, y2, q0, q1, q2, q3, q4, q5, q6, ix2, iy2⟩ := g2 k hlt
      have m1 := fun o => HF.out.cell (o := o) hk1 (fun h => h)
      have m2 := fun o => HF.out.cell (o := o) hk2 (fun h => h)
      have p0 := (m1 _).trans p0
      have p1 := (m1 _).trans p1
      have p2 := (m1 _).trans p2
      have p3 := (m1 _).trans p3
      have p4 := (m1 _).trans p4
      have p5 := (m1 _).trans p5
      have p6 := (m1 _).trans p6
      have q0 := (m2 _).trans q0
      have q1 := (m2 _).trans q1
      have q2 := (m2 _).trans q2
      have q3 := (m2 _).trans q3
      have q4 := (m2 _).trans q4
      have q5 := (m2 _).trans q5
      have q6 := (m2 _).trans q6
      have X1 : Hd (IA wr x1 cs[k].args) := ix1.stay HF.out
      have Y1 : Hd (IA wr y1 cs[k].rets) := iy1.stay HF.out
      have X2 : Hd (IA wr x2 cs[k].args) := ix2.stay HF.out
      have Y2 : Hd (IA wr y2 cs[k].rets) := iy2.stay HF.out
      have HC : Hd (cs[k].args.length ≤ 17592186043904 ∧ cs[k].rets.length ≤ 17592186043904) := HFI.out.2 _ (List.getElem_mem hlt)
      generalize cs[k] = c at *
      obtain ⟨a, b, e1, -⟩ := ix1
      obtain ⟨a', b', e2, -⟩ := iy1
      obtain ⟨a'', b'', e3, -⟩ := ix2
      obtain ⟨a3, b3, e4, -⟩ := iy2
      subst e1; subst e2; subst e3; subst e4
      have hk0 : (0 : Int) ≤ k := by omega
      have hk3 : (k : Int) < cs.length := by omega
      clear g1 g2 m1 m2
      go_wp2_with fail
      refine wp_region_still_tail 8 mixed (by kernel_rfl) ?_
      simp only [List.take_succ_cons, List.take_zero, List.drop_succ_cons, List.drop_zero]
      repeat still_step
      refine wpStill_nil ?_
      go_wp2_with fail
      refine (show Calls Tryd.prog 102 #[.agg #[vI c.op, vI c.r, vI c.s, vI c.t, vI c.n, .slice a c.args.length b, .slice a' c.rets.length b'], .agg #[vI c.op, vI c.r, vI c.s, vI c.t, vI c.n, .slice a'' c.args.length b'', .slice a3 c.rets.length b3]] wr.drew _ from eqInstr_same c _ _ _ _ wr.drew X1.out Y1.out X2.out Y2.out (by have := HC.out; omega) (by have := HC.out; omega)).mono ?_
      rintro e w1 ⟨rfl, hF1⟩
      have HF1 : Hd (Fr (fun _ => False) w w1) := HF.out.drew.trans hF1
      clear hF1 p0 p1 p2 p3 p4 p5 p6 q0 q1 q2 q3 q4 q5 q6
      go_wp2_with fail
      exact ⟨⟨k + 1, by simp, by omega, HF1.out⟩, by simp; omega⟩
    · have hke : k = cs.length := by omega
      subst hke
      go_wp2_with fail
      go_ret
      exact ⟨rfl, HF.out⟩
theorem eqFunc_same (f : PF) (x1 x2 : Value) (w : World) (h1 : CA w x1 f.code) (h3 : CA w x2 f.code) (hn : FineC f.code) :
    Calls Tryd.prog 67 #[.agg #[vI f.P, vI f.R, vI f.V, x1], .agg #[vI f.P, vI f.R, vI f.V, x2]] w fun e w' => e = .returned (.bool true) ∧ Fr (fun _ => False) w w' := by
  obtain ⟨a1, b1, e1, -⟩ := id h1
  obtain ⟨a3, b3, e3, -⟩ := id h3
  have hF : Fr (fun _ => False) w ((w.alloc (.cells #[vI f.P, vI f.R, vI f.V, x1] 67)).alloc (.cells #[vI f.P, vI f.R, vI f.V, x2] 67)) := Fr.alloc (Fr.alloc (Fr.refl _ w) _) _
  have HB1 : Hd (((w.alloc (.cells #[vI f.P, vI f.R, vI f.V, x1] 67)).alloc (.cells #[vI f.P, vI f.R, vI f.V, x2] 67)).heap[w.heap.size]? = some (.cells #[vI f.P, vI f.R, vI f.V, x1] 67)) := by
    unfold Hd; rw [Go.RowKit.Below.heap_alloc _ _ _ (by simp)]; exact heap_new w _
  have HB2 : Hd (((w.alloc (.cells #[vI f.P, vI f.R, vI f.V, x1] 67)).alloc (.cells #[vI f.P, vI f.R, vI f.V, x2] 67)).heap[w.heap.size + 1]? = some (.cells #[vI f.P, vI f.R, vI f.V, x2] 67)) := by
    unfold Hd; rw [show w.heap.size + 1 = (w.alloc (.cells #[vI f.P, vI f.R, vI f.V, x1] 67)).heap.size by simp]; exact heap_new _ _
  have H1 := h1.stay hF
  have H3 := h3.stay hF
  have G1 : Hd _ := H1
  have G3 : Hd _ := H3
  have HF : Hd _ := hF
  clear h1 h3 H1 H3 hF
  subst e1; subst e3
  have q0 : (f.P == f.P) = true := by simp
  have q1 : (f.R == f.R) = true := by simp
  have q2 : (f.V == f.V) = true := by simp
  go_enter Tryd.func67, Tryd.ntmps67
  go_upto_region 1 with fail
  generalize (w.alloc (.cells #[vI f.P, vI f.R, vI f.V, .slice a1 f.code.length b1] 67)).alloc (.cells #[vI f.P, vI f.R, vI f.V, .slice a3 f.code.length b3] 67) = wa at *
  have c0 : wa.cell? ⟨w.heap.size, 0, none⟩ = some (vI f.P) := by rw [cell_of HB1.out]; rfl
  have c1 : wa.cell? ⟨w.heap.size, 1, none⟩ = some (vI f.R) := by rw [cell_of HB1.out]; rfl
  have c2 : wa.cell? ⟨w.heap.size, 2, none⟩ = some (vI f.V) := by rw [cell_of HB1.out]; rfl
  have c3 : wa.cell? ⟨w.heap.size, 3, none⟩ = some (.slice a1 f.code.length b1) := by rw [cell_of HB1.out]; rfl
  have d0 : wa.cell? ⟨w.heap.size + 1, 0, none⟩ = some (vI f.P) := by rw [cell_of HB2.out]; rfl
  have d1 : wa.cell? ⟨w.heap.size + 1, 1, none⟩ = some (vI f.R) := by rw [cell_of HB2.out]; rfl
  have d2 : wa.cell? ⟨w.heap.size + 1, 2, none⟩ = some (vI f.V) := by rw [cell_of HB2.out]; rfl
  have d3 : wa.cell? ⟨w.heap.size + 1, 3, none⟩ = some (.slice a3 f.code.length b3) := by rw [cell_of HB2.out]; rfl
  go_wp2_with fail
  refine (show Calls Tryd.prog 95 #[.slice a1 f.code.length b1, .slice a3 f.code.length b3] wa _ from eqCode_same _ _ f.code wa G1.out G3.out hn).mono ?_
  rintro e w1 ⟨rfl, hF1⟩
  have HF1 : Hd (Fr (fun _ => False) w w1) := HF.out.trans hF1
  clear hF1 c0 c1 c2 c3 d0 d1 d2 d3 HB1 HB2
  go_wp2_with fail
  go_ret
  exact ⟨rfl, HF1.out⟩
theorem eqFuncs_same (v1 v2 : Value) (fs : List PF) (w : World) (h1 : FA w v1 fs) (h2 : FA w v2 fs) (hn : FineP fs) :
    Calls Tryd.prog 40 #[v1, v2] w fun e w' => e = .returned (.bool true) ∧ Fr (fun _ => False) w w' := by
  obtain ⟨a1, c1, rfl, hc1⟩ := h1
  obtain ⟨a2, c2, rfl, hc2⟩ := h2
  have H1 : Hd _ := hc1
  have H2 : Hd _ := hc2
  have HFI : Hd (FineP fs) := hn
  have hz := hn.1
  clear hc1 hc2 hn
  go_enter Tryd.func40, Tryd.ntmps40
  go_wp2_with fail
  go_loopw [5] (fun v wr => ∃ (k : Nat), v = .int .i64 k ∧ k ≤ fs.length ∧ Hd (Fr (fun _ => False) w wr)) (fun v _ => match v with | .int _ q => fs.length - q.toNat | _ => 0)
  case atStart => exact ⟨0, rfl, Nat.zero_le _, Fr.refl _ _⟩
  case round =>
    obtain ⟨k, rfl, hk, HF⟩ := hrel
    by_cases hlt : k < fs.length
    · have hne : fs ≠ [] := by intro e; simp [e] at hlt
      obtain ⟨k1, o1, rfl, hk1, g1⟩ := H1.out hne
      obtain ⟨k2, o2, rfl, hk2, g2⟩ := H2.out hne
      obtain ⟨x1, p0, p1, p2, p3, ix1⟩ := g1 k hlt
      obtain ⟨x2, q0, q1, q2, q3, ix2⟩ := g2 k hlt
      have m1 := fun o => HF.out.cell (o := o) hk1 (fun h => h)
      have m2 := fun o => HF.out.cell (o := o) hk2 (fun h => h)
      have p0 := (m1 _).trans p0
      have p1 := (m1 _).trans p1
      have p2 := (m1 _).trans p2
      have p3 := (m1 _).trans p3
      have q0 := (m2 _).trans q0
      have q1 := (m2 _).trans q1
      have q2 := (m2 _).trans q2
      have q3 := (m2 _).trans q3
      have X1 : Hd (CA wr x1 fs[k].code) := ix1.stay HF.out
      have X2 : Hd (CA wr x2 fs[k].code) := ix2.stay HF.out
      have HC : Hd (FineC fs[k].code) := HFI.out.2 _ (List.getElem_mem hlt)
      generalize fs[k] = f at *
      obtain ⟨a, b, e1, -⟩ := ix1
      obtain ⟨a'', b'', e3, -⟩ := ix2
      subst e1; subst e3
      have hk0 : (0 : Int) ≤ k := by omega
      have hk3 : (k : Int) < fs.length := by omega
      clear g1 g2 m1 m2
      go_wp2_with fail
      refine wp_region_still_tail 8 mixed (by kernel_rfl) ?_
      simp only [List.take_succ_cons, List.take_zero, List.drop_succ_cons, List.drop_zero]
      repeat still_step
      refine wpStill_nil ?_
      go_wp2_with fail
      refine (show Calls Tryd.prog 67 #[.agg #[vI f.P, vI f.R, vI f.V, .slice a f.code.length b], .agg #[vI f.P, vI f.R, vI f.V, .slice a'' f.code.length b'']] wr.drew _ from eqFunc_same f _ _ wr.drew X1.out X2.out HC.out).mono ?_
      rintro e w1 ⟨rfl, hF1⟩
      have HF1 : Hd (Fr (fun _ => False) w w1) := HF.out.drew.trans hF1
      clear hF1 p0 p1 p2 p3 q0 q1 q2 q3
      go_wp2_with fail
      exact ⟨⟨k + 1, by simp, by omega, HF1.out⟩, by simp; omega⟩
    · have hke : k = fs.length := by omega
      subst hke
      go_wp2_with fail
      go_ret
      exact ⟨rfl, HF.out⟩
theorem eqProgram_same (G : Int) (fs : List PF) (x1 x2 : Value) (w : World) (h1 : FA w x1 fs) (h3 : FA w x2 fs) (hn : FineP fs) :
    Calls Tryd.prog 15 #[.agg #[vI G, x1], .agg #[vI G, x2]] w fun e w' => e = .returned (.bool true) ∧ Fr (fun _ => False) w w' := by
  obtain ⟨a1, b1, e1, -⟩ := id h1
  obtain ⟨a3, b3, e3, -⟩ := id h3
  have hF : Fr (fun _ => False) w ((w.alloc (.cells #[vI G, x1] 26)).alloc (.cells #[vI G, x2] 26)) := Fr.alloc (Fr.alloc (Fr.refl _ w) _) _
  have HB1 : Hd (((w.alloc (.cells #[vI G, x1] 26)).alloc (.cells #[vI G, x2] 26)).heap[w.heap.size]? = some (.cells #[vI G, x1] 26)) := by
    unfold Hd; rw [Go.RowKit.Below.heap_alloc _ _ _ (by simp)]; exact heap_new w _
  have HB2 : Hd (((w.alloc (.cells #[vI G, x1] 26)).alloc (.cells #[vI G, x2] 26)).heap[w.heap.size + 1]? = some (.cells #[vI G, x2] 26)) := by
    unfold Hd; rw [show w.heap.size + 1 = (w.alloc (.cells #[vI G, x1] 26)).heap.size by simp]; exact heap_new _ _
  have H1 := h1.stay hF
  have H3 := h3.stay hF
  have G1 : Hd _ := H1
  have G3 : Hd _ := H3
  have HF : Hd _ := hF
  clear h1 h3 H1 H3 hF
  subst e1; subst e3
  have q0 : (G == G) = true := by simp
  go_enter Tryd.func15, Tryd.ntmps15
  go_upto_region 1 with fail
  generalize (w.alloc (.cells #[vI G, .slice a1 fs.length b1] 26)).alloc (.cells #[vI G, .slice a3 fs.length b3] 26) = wa at *
  have c0 : wa.cell? ⟨w.heap.size, 0, none⟩ = some (vI G) := by rw [cell_of HB1.out]; rfl
  have c1 : wa.cell? ⟨w.heap.size, 1, none⟩ = some (.slice a1 fs.length b1) := by rw [cell_of HB1.out]; rfl
  have d0 : wa.cell? ⟨w.heap.size + 1, 0, none⟩ = some (vI G) := by rw [cell_of HB2.out]; rfl
  have d1 : wa.cell? ⟨w.heap.size + 1, 1, none⟩ = some (.slice a3 fs.length b3) := by rw [cell_of HB2.out]; rfl
  go_wp2_with fail
  refine (show Calls Tryd.prog 40 #[.slice a1 fs.length b1, .slice a3 fs.length b3] wa _ from eqFuncs_same _ _ fs wa G1.out G3.out hn).mono ?_
  rintro e w1 ⟨rfl, hF1⟩
  have HF1 : Hd (Fr (fun _ => False) w w1) := HF.out.trans hF1
  clear hF1 c0 c1 d0 d1 HB1 HB2
  go_wp2_with fail
  go_ret
  exact ⟨rfl, HF1.out⟩
set_option maxRecDepth 100000
set_option maxHeartbeats 1000000
theorem flat_get {α : Type} (row : α → List Value) (sz : Nat) (hr : ∀ x, (row x).length = sz) : ∀ (L : List α) (i o : Nat) (h : i < L.length), o < sz → (L.flatMap row)[i * sz + o]? = (row L[i])[o]?
  | [], i, o, h, _ => absurd h (by simp)
  | x :: L, 0, o, _, ho => by
    rw [Nat.zero_mul, Nat.zero_add, List.flatMap_cons, List.getElem?_append_left (by rw [hr]; exact ho)]
    rfl
  | x :: L, i + 1, o, h, ho => by
    rw [List.flatMap_cons, List.getElem?_append_right (by rw [hr, Nat.add_mul]; omega), hr, show (i + 1) * sz + o - sz = i * sz + o by rw [Nat.add_mul]; omega]
    exact flat_get row sz hr L i o (by simpa using h) ho
theorem own_cell {w : World} {B e sz n : Nat} {v : Value} {xs : List Value} (h : w.ownsRow B e sz v n xs) {j : Nat} {u : Value} (hj : xs[j]? = some u) : ∃ g cap, v = .slice (some ⟨g, 0, none⟩) n cap ∧ g < w.heap.size ∧ w.cell? ⟨g, j, none⟩ = some u := by
  obtain ⟨h0, h1⟩ := h
  have hjl := (List.getElem?_eq_some_iff.1 hj).1
  rcases h1 with ⟨-, e2⟩ | ⟨g, cap, cur, rfl, k1, k2, k3, k4, k5, k6⟩
  · subst e2; simp at h0; subst h0; simp at hjl
  · refine ⟨g, cap, rfl, heap_lt k2, ?_⟩
    rw [cell_of k2, ← Array.getElem?_toList]
    rw [← k6] at hj
    rw [List.getElem?_take_of_lt (by omega)] at hj
    exact hj
theorem own_apart {w : World} {B B' e e' sz sz' n m : Nat} {v u : Value} {xs ys : List Value} (h : w.ownsRow B e sz v n xs) (k : w.ownsRow B' e' sz' u m ys) (he : e ≠ e') : ∀ j, u.ownBlock = some j → v.ownBlock ≠ some j := by
  intro j hu hv
  rcases h.2 with ⟨rfl, -⟩ | ⟨g, cap, cur, rfl, -, h2, -⟩
  · cases hv
  · rcases k.2 with ⟨rfl, -⟩ | ⟨g', cap', cur', rfl, -, k2, -⟩
    · cases hu
    · cases hv
      cases hu
      rw [h2] at k2
      cases k2
      exact he rfl
abbrev CI := PI × Value × Value
abbrev rowI (x : CI) : List Value := iR x.1 x.2
structure CO (w : World) (B : Nat) (v : Value) (L : List CI) : Prop where
  row : w.ownsRow B 71 7 v L.length (L.flatMap rowI)
  ints : ∀ x ∈ L, IOwn w B x.2.1 x.1.args ∧ IOwn w B x.2.2 x.1.rets
theorem CO.ca {w : World} {B : Nat} {v : Value} {L : List CI} (h : CO w B v L) : CA w v (L.map (·.1)) := by
  rcases h.row.2 with ⟨h2, h3⟩ | ⟨g, cap, cur, e, -⟩
  · refine ⟨none, 0, by rw [h2, List.length_map, h3], fun hne => ?_⟩
    exact absurd (by rw [List.eq_nil_of_length_eq_zero h3]; rfl) hne
  · refine ⟨some ⟨g, 0, none⟩, cap, by rw [e, List.length_map], fun _ => ⟨g, 0, rfl, (World.ownsRow.lt h.row g (by rw [e]; rfl)).2, fun j hj => ?_⟩⟩
    have hj' : j < L.length := by simpa using hj
    have pc : ∀ o u, o < 7 → (rowI L[j])[o]? = some u → w.cell? ⟨g, j * 7 + o, none⟩ = some u := fun o u ho hu => by
      obtain ⟨g', cap', e', -, hc⟩ := own_cell h.row (j := j * 7 + o) (u := u) (by rw [flat_get rowI 7 (fun _ => rfl) L j o hj' ho]; exact hu)
      rw [e] at e'
      cases e'
      exact hc
    have hi := h.ints L[j] (List.getElem_mem hj')
    rw [Nat.zero_add]
    simp only [List.getElem_map]
    exact ⟨L[j].2.1, L[j].2.2, pc 0 _ (by omega) rfl, pc 1 _ (by omega) rfl, pc 2 _ (by omega) rfl, pc 3 _ (by omega) rfl, pc 4 _ (by omega) rfl, pc 5 _ (by omega) rfl, pc 6 _ (by omega) rfl, hi.1.ia, hi.2.ia⟩
theorem CO.fr {S : Nat → Prop} {w w' : World} {B : Nat} {v : Value} {L : List CI} (h : CO w B v L) (f : Fr S w w') (h1 : ∀ k, v.ownBlock = some k → ¬ S k) (h2 : ∀ x ∈ L, ∀ k, (x.2.1.ownBlock = some k ∨ x.2.2.ownBlock = some k) → ¬ S k) : CO w' B v L :=
  ⟨ownsRow_frL h.row f h1, fun x hx => ⟨(h.ints x hx).1.fr f (fun k e => h2 x hx k (Or.inl e)), (h.ints x hx).2.fr f (fun k e => h2 x hx k (Or.inr e))⟩⟩
theorem CO.stay {w w' : World} {B : Nat} {v : Value} {L : List CI} (h : CO w B v L) (f : Fr (fun _ => False) w w') : CO w' B v L := h.fr f (fun _ _ e => e) (fun _ _ _ _ e => e)
theorem CO.mono {w : World} {B B' : Nat} {v : Value} {L : List CI} (h : CO w B v L) (hB : B' ≤ B) : CO w B' v L := ⟨World.ownsRow.mono h.row hB, fun x hx => ⟨(h.ints x hx).1.mono hB, (h.ints x hx).2.mono hB⟩⟩
theorem copyInstr_any (c : PI) (x y : Value) (w : World) (h1 : IA w x c.args) (h2 : IA w y c.rets) (hla : c.args.length ≤ 17592186043904) (hlr : c.rets.length ≤ 17592186043904) :
    Calls Tryd.prog 101 #[.agg #[vI c.op, vI c.r, vI c.s, vI c.t, vI c.n, x, y]] w fun e w' => ∃ x' y', e = .returned (.agg #[vI c.op, vI c.r, vI c.s, vI c.t, vI c.n, x', y']) ∧ IOwn w' w.heap.size x' c.args ∧ IOwn w' w.heap.size y' c.rets ∧ Fr (fun _ => False) w w' := by
  obtain ⟨a1, b1, e1, -⟩ := id h1
  obtain ⟨a2, b2, e2, -⟩ := id h2
  obtain ⟨wa, hwa⟩ : ∃ wa, wa = (w.alloc (.cells #[vI c.op, vI c.r, vI c.s, vI c.t, vI c.n, x, y] 71)).alloc (.cells #[vI 0, vI 0, vI 0, vI 0, vI 0, .slice none 0 0, .slice none 0 0] 71) := ⟨_, rfl⟩
  have hF : Fr (fun _ => False) w wa := by rw [hwa]; exact Fr.alloc (Fr.alloc (Fr.refl _ w) _) _
  have hsz : wa.heap.size = w.heap.size + 2 := by rw [hwa]; simp
  have b1' : wa.heap[w.heap.size]? = some (.cells #[vI c.op, vI c.r, vI c.s, vI c.t, vI c.n, x, y] 71) := by
    rw [hwa, Go.RowKit.Below.heap_alloc _ _ _ (by simp)]; exact heap_new w _
  have b2' : wa.heap[w.heap.size + 1]? = some (.cells #[vI 0, vI 0, vI 0, vI 0, vI 0, .slice none 0 0, .slice none 0 0] 71) := by
    rw [hwa, show w.heap.size + 1 = (w.alloc (.cells #[vI c.op, vI c.r, vI c.s, vI c.t, vI c.n, x, y] 71)).heap.size by simp]; exact heap_new _ _
  have HWA : Hd (wa = (w.alloc (.cells #[vI c.op, vI c.r, vI c.s, vI c.t, vI c.n, x, y] 71)).alloc (.cells #[vI 0, vI 0, vI 0, vI 0, vI 0, .slice none 0 0, .slice none 0 0] 71)) := hwa
  have G1 : Hd (IA wa x c.args) := h1.stay hF
  have G2 : Hd (IA w y c.rets) := h2
  have HF : Hd (Fr (fun _ => False) w wa) := hF
  obtain ⟨H, hH⟩ : ∃ H, H = w.heap.size := ⟨_, rfl⟩
  have HH : Hd (H = w.heap.size) := hH
  have HSZ : Hd (wa.heap.size = H + 2) := by rw [hH]; exact hsz
  rw [← hH] at b1' b2'
  have B1 : Hd _ := b1'
  have B2 : Hd _ := b2'
  have p5 : wa.cell? ⟨H, 5, none⟩ = some x := by rw [cell_of b1']; rfl
  subst e1; subst e2
  clear h1 h2 hF hsz hwa hH b1' b2'
  go_enter Tryd.func101, Tryd.ntmps101
  go_upto_region 1 with fail
  rw [← HWA.out, ← HH.out]
  clear HWA
  go_wp2_with fail
  refine (show Calls Tryd.prog 104 #[.slice a1 c.args.length b1] wa _ from copyInts_any _ c.args wa G1.out hla).mono ?_
  rintro e w2 ⟨x', rfl, hx', hF2⟩
  have hxs : ∀ k, x'.ownBlock = some k → H + 2 ≤ k := fun k e => by have := (hx'.ge k e).1; have := HSZ.out; omega
  have B1' : w2.heap[H]? = some (.cells #[vI c.op, vI c.r, vI c.s, vI c.t, vI c.n, .slice a1 c.args.length b1, .slice a2 c.rets.length b2] 71) := (hF2.block H (heap_lt B1.out) (fun e => e)).trans B1.out
  have B2' : w2.heap[H + 1]? = some (.cells #[vI 0, vI 0, vI 0, vI 0, vI 0, .slice none 0 0, .slice none 0 0] 71) := (hF2.block (H + 1) (heap_lt B2.out) (fun e => e)).trans B2.out
  obtain ⟨xa, xc, exa⟩ : ∃ xa xc, x' = .slice xa c.args.length xc := by obtain ⟨xa, xc, e, -⟩ := hx'.ia; exact ⟨xa, xc, e⟩
  have q5 : w2.cell? ⟨H, 5, none⟩ = some (.slice a1 c.args.length b1) := by rw [cell_of B1']; rfl
  have z5 := frozen_of B1' 5
  have fs2 := setCell_fr w2 H 5 x'
  have C1 : Hd ((w2.setCell ⟨H, 5, none⟩ x').heap[H]? = some (.cells #[vI c.op, vI c.r, vI c.s, vI c.t, vI c.n, x', .slice a2 c.rets.length b2] 71)) := set_of B1' 5 x'
  have C2 : Hd ((w2.setCell ⟨H, 5, none⟩ x').heap[H + 1]? = some (.cells #[vI 0, vI 0, vI 0, vI 0, vI 0, .slice none 0 0, .slice none 0 0] 71)) := (fs2.block (H + 1) (heap_lt B2') (by omega)).trans B2'
  have HX : Hd (IOwn (w2.setCell ⟨H, 5, none⟩ x') (H + 2) x' c.args) := (hx'.mono (by rw [HSZ.out]; exact Nat.le_refl _)).fr fs2 (fun k e e2 => by have := hxs k e; omega)
  have HF2 : Hd (Fr (fun _ => False) w (w2.setCell ⟨H, 5, none⟩ x')) := (HF.out.trans hF2).then fs2 (fun j hj e => by have := HH.out; omega)
  have HZ2 : Hd (H + 2 ≤ (w2.setCell ⟨H, 5, none⟩ x').heap.size) := by have := hF2.size; have := HSZ.out; have := fs2.size; unfold Hd; omega
  have G2' : Hd (IA (w2.setCell ⟨H, 5, none⟩ x') (.slice a2 c.rets.length b2) c.rets) := IA.stay G2.out HF2.out
  subst exa
  clear hx' hF2 hxs fs2 B1' B2' p5 B1 B2 G1 G2 HF HSZ
  go_upto_region 2 with fail
  clear q5 z5
  generalize w2.setCell ⟨H, 5, none⟩ (.slice xa c.args.length xc) = w3 at *
  have q6 : w3.cell? ⟨H, 6, none⟩ = some (.slice a2 c.rets.length b2) := by rw [cell_of C1.out]; rfl
  go_wp2_with fail
  refine (show Calls Tryd.prog 104 #[.slice a2 c.rets.length b2] w3 _ from copyInts_any _ c.rets w3 G2'.out hlr).mono ?_
  rintro e w4 ⟨y', rfl, hy', hF4⟩
  have hys : ∀ k, y'.ownBlock = some k → H + 2 ≤ k := fun k e => by have := (hy'.ge k e).1; have := HZ2.out; omega
  have B1' : w4.heap[H]? = some (.cells #[vI c.op, vI c.r, vI c.s, vI c.t, vI c.n, .slice xa c.args.length xc, .slice a2 c.rets.length b2] 71) := (hF4.block H (heap_lt C1.out) (fun e => e)).trans C1.out
  have B2' : w4.heap[H + 1]? = some (.cells #[vI 0, vI 0, vI 0, vI 0, vI 0, .slice none 0 0, .slice none 0 0] 71) := (hF4.block (H + 1) (heap_lt C2.out) (fun e => e)).trans C2.out
  obtain ⟨ya, yc, eya⟩ : ∃ ya yc, y' = .slice ya c.rets.length yc := by obtain ⟨ya, yc, e, -⟩ := hy'.ia; exact ⟨ya, yc, e⟩
  have fs4 := setCell_fr w4 H 6 y'
  have D1 : (w4.setCell ⟨H, 6, none⟩ y').heap[H]? = some (.cells #[vI c.op, vI c.r, vI c.s, vI c.t, vI c.n, .slice xa c.args.length xc, y'] 71) := set_of B1' 6 y'
  have D2 : (w4.setCell ⟨H, 6, none⟩ y').heap[H + 1]? = some (.cells #[vI 0, vI 0, vI 0, vI 0, vI 0, .slice none 0 0, .slice none 0 0] 71) := (fs4.block (H + 1) (heap_lt B2') (by omega)).trans B2'
  have HX4 : IOwn (w4.setCell ⟨H, 6, none⟩ y') (H + 2) (.slice xa c.args.length xc) c.args := (HX.out.fr hF4 (fun _ _ e => e)).fr fs4 (fun k e e2 => by have := (HX.out.ge k e).1; omega)
  have HY4 : IOwn (w4.setCell ⟨H, 6, none⟩ y') (H + 2) y' c.rets := (hy'.mono HZ2.out).fr fs4 (fun k e e2 => by have := hys k e; omega)
  have HF4 : Fr (fun _ => False) w (w4.setCell ⟨H, 6, none⟩ y') := (HF2.out.trans hF4).then fs4 (fun j hj e => by have := HH.out; omega)
  have r6 : w4.cell? ⟨H, 6, none⟩ = some (.slice a2 c.rets.length b2) := by rw [cell_of B1']; rfl
  have z6 := frozen_of B1' 6
  subst eya
  have J1 : Hd _ := D1
  have J2 : Hd _ := D2
  have JX : Hd _ := HX4
  have JY : Hd _ := HY4
  have JF : Hd _ := HF4
  clear hy' hF4 hys fs4 B1' B2' D1 D2 HX4 HY4 HF4 C1 C2 HX HF2 HZ2 G2'
  go_upto_region 3 with fail
  clear q6 r6 z6
  generalize w4.setCell ⟨H, 6, none⟩ (.slice ya c.rets.length yc) = w5 at *
  have c0 : w5.cell? ⟨H, 0, none⟩ = some (vI c.op) := by rw [cell_of J1.out]; rfl
  have c1 : w5.cell? ⟨H, 1, none⟩ = some (vI c.r) := by rw [cell_of J1.out]; rfl
  have c2 : w5.cell? ⟨H, 2, none⟩ = some (vI c.s) := by rw [cell_of J1.out]; rfl
  have c3 : w5.cell? ⟨H, 3, none⟩ = some (vI c.t) := by rw [cell_of J1.out]; rfl
  have c4 : w5.cell? ⟨H, 4, none⟩ = some (vI c.n) := by rw [cell_of J1.out]; rfl
  have c5 : w5.cell? ⟨H, 5, none⟩ = some (.slice xa c.args.length xc) := by rw [cell_of J1.out]; rfl
  have c6 : w5.cell? ⟨H, 6, none⟩ = some (.slice ya c.rets.length yc) := by rw [cell_of J1.out]; rfl
  have d0 : w5.cell? ⟨H + 1, 0, none⟩ = some (vI 0) := by rw [cell_of J2.out]; rfl
  have d1 : w5.cell? ⟨H + 1, 1, none⟩ = some (vI 0) := by rw [cell_of J2.out]; rfl
  have d2 : w5.cell? ⟨H + 1, 2, none⟩ = some (vI 0) := by rw [cell_of J2.out]; rfl
  have d3 : w5.cell? ⟨H + 1, 3, none⟩ = some (vI 0) := by rw [cell_of J2.out]; rfl
  have d4 : w5.cell? ⟨H + 1, 4, none⟩ = some (vI 0) := by rw [cell_of J2.out]; rfl
  have d5 : w5.cell? ⟨H + 1, 5, none⟩ = some (.slice none 0 0) := by rw [cell_of J2.out]; rfl
  have d6 : w5.cell? ⟨H + 1, 6, none⟩ = some (.slice none 0 0) := by rw [cell_of J2.out]; rfl
  have y0 := frozen_of J2.out 0
  have y1 := frozen_of J2.out 1
  have y2 := frozen_of J2.out 2
  have y3 := frozen_of J2.out 3
  have y4 := frozen_of J2.out 4
  have y5 := frozen_of J2.out 5
  have y6 := frozen_of J2.out 6
  have HL : Hd ((sev7 w5 (H + 1) 0 (iR c (.slice xa c.args.length xc, .slice ya c.rets.length yc))).heap[H + 1]? = some (.cells #[vI c.op, vI c.r, vI c.s, vI c.t, vI c.n, .slice xa c.args.length xc, .slice ya c.rets.length yc] 71)) :=
    set_of (set_of (set_of (set_of (set_of (set_of (set_of J2.out 0 _) 1 _) 2 _) 3 _) 4 _) 5 _) 6 _
  have fs6 := sev7_fr w5 (H + 1) 0 (iR c (.slice xa c.args.length xc, .slice ya c.rets.length yc))
  have KX : Hd (IOwn (sev7 w5 (H + 1) 0 (iR c (.slice xa c.args.length xc, .slice ya c.rets.length yc))) w.heap.size (.slice xa c.args.length xc) c.args) := (IOwn.fr JX.out fs6 (fun k e e2 => by have := (IOwn.ge JX.out k e).1; omega)).mono (by have := HH.out; omega)
  have KY : Hd (IOwn (sev7 w5 (H + 1) 0 (iR c (.slice xa c.args.length xc, .slice ya c.rets.length yc))) w.heap.size (.slice ya c.rets.length yc) c.rets) := (IOwn.fr JY.out fs6 (fun k e e2 => by have := (IOwn.ge JY.out k e).1; omega)).mono (by have := HH.out; omega)
  have KF : Hd (Fr (fun _ => False) w (sev7 w5 (H + 1) 0 (iR c (.slice xa c.args.length xc, .slice ya c.rets.length yc)))) := Fr.then JF.out fs6 (fun j hj e => by have := HH.out; omega)
  clear fs6
  go_wp2_with fail
  change bodyPost _ _ _ _ _ (sev7 w5 (H + 1) 0 (iR c (.slice xa c.args.length xc, .slice ya c.rets.length yc)))
  generalize sev7 w5 (H + 1) 0 (iR c (.slice xa c.args.length xc, .slice ya c.rets.length yc)) = wz at *
  have e0 : wz.cell? ⟨H + 1, 0, none⟩ = some (vI c.op) := by rw [cell_of HL.out]; rfl
  have e1 : wz.cell? ⟨H + 1, 1, none⟩ = some (vI c.r) := by rw [cell_of HL.out]; rfl
  have e2 : wz.cell? ⟨H + 1, 2, none⟩ = some (vI c.s) := by rw [cell_of HL.out]; rfl
  have e3 : wz.cell? ⟨H + 1, 3, none⟩ = some (vI c.t) := by rw [cell_of HL.out]; rfl
  have e4 : wz.cell? ⟨H + 1, 4, none⟩ = some (vI c.n) := by rw [cell_of HL.out]; rfl
  have e5 : wz.cell? ⟨H + 1, 5, none⟩ = some (.slice xa c.args.length xc) := by rw [cell_of HL.out]; rfl
  have e6 : wz.cell? ⟨H + 1, 6, none⟩ = some (.slice ya c.rets.length yc) := by rw [cell_of HL.out]; rfl
  refine bodyPost_ret (v := .agg #[vI c.op, vI c.r, vI c.s, vI c.t, vI c.n, .slice xa c.args.length xc, .slice ya c.rets.length yc]) ?_ rfl ⟨_, _, rfl, KX.out, KY.out, KF.out⟩
  rw [results_cell (p := 2) (ty := 71) Tryd.results101]
  simp [go_sem, e0, e1, e2, e3, e4, e5, e6]
set_option maxRecDepth 100000
set_option maxHeartbeats 2000000
theorem copyCode_any (v : Value) (cs : List PI) (w : World) (hl : CA w v cs) (hn : FineC cs) :
    Calls Tryd.prog 94 #[v] w fun e w' => ∃ v' L, e = .returned v' ∧ CO w' w.heap.size v' L ∧ L.map (·.1) = cs ∧ Fr (fun _ => False) w w' := by
  obtain ⟨ea, ec, rfl, hein⟩ := hl
  have HE : Hd _ := hein
  have HFI : Hd (FineC cs) := hn
  have hz := hn.1
  clear hein hn
  obtain ⟨i7, hi7, hz7, hs7, hb7⟩ := info_parts (P := Tryd.prog) (e := 71) (z := .agg #[vI 0, vI 0, vI 0, vI 0, vI 0, .slice none 0 0, .slice none 0 0]) (size := 7) (bytes := 88) (by kernel_rfl)
  go_enter Tryd.func94, Tryd.ntmps94
  go_wp2_with fail
  go_loopw [3, 4] (fun mv v wr => ∃ (k : Nat) (L : List CI), v = .int .i64 k ∧ k ≤ cs.length ∧ Hd (CO wr w.heap.size mv L) ∧ Hd (L.map (·.1) = cs.take k) ∧ Hd (Fr (fun _ => False) w wr)) (fun _ v _ => match v with | .int _ q => cs.length - q.toNat | _ => 0)
  case atStart => exact ⟨0, [], rfl, Nat.zero_le _, ⟨World.ownsRow_nil _ _ _ _, fun x hx => by simp at hx⟩, rfl, Fr.refl _ _⟩
  case round =>
    obtain ⟨k, L, rfl, hk, HO, HM, HF⟩ := hrel
    by_cases hlt : k < cs.length
    · have hne : cs ≠ [] := by intro e; simp [e] at hlt
      obtain ⟨k1, o1, rfl, hk1, g1⟩ := HE.out hne
      obtain ⟨x1, y1, p0, p1, p2, p3, p4, p5, p6, ix1, iy1⟩ := g1 k hlt
      have m1 := fun o => HF.out.cell (o := o) hk1 (fun h => h)
      have p0 := (m1 _).trans p0
      have p1 := (m1 _).trans p1
      have p2 := (m1 _).trans p2
      have p3 := (m1 _).trans p3
      have p4 := (m1 _).trans p4
      have p5 := (m1 _).trans p5
      have p6 := (m1 _).trans p6
      have X1 : Hd (IA wr x1 cs[k].args) := ix1.stay HF.out
      have Y1 : Hd (IA wr y1 cs[k].rets) := iy1.stay HF.out
      have HC : Hd (cs[k].args.length ≤ 17592186043904 ∧ cs[k].rets.length ≤ 17592186043904) := HFI.out.2 _ (List.getElem_mem hlt)
      have HT : Hd (cs.take (k + 1) = cs.take k ++ [cs[k]]) := by unfold Hd; rw [List.take_add_one, List.getElem?_eq_getElem hlt]; rfl
      have HLL : Hd (L.length = k) := by have := congrArg List.length HM.out; simp at this; unfold Hd; omega
      generalize cs[k] = c at *
      obtain ⟨a, b, e1, -⟩ := ix1
      obtain ⟨a', b', e2, -⟩ := iy1
      subst e1; subst e2
      have hk0 : (0 : Int) ≤ k := by omega
      have hk3 : (k : Int) < cs.length := by omega
      clear g1 m1
      go_wp2_with fail
      refine (show Calls Tryd.prog 101 #[.agg #[vI c.op, vI c.r, vI c.s, vI c.t, vI c.n, .slice a c.args.length b, .slice a' c.rets.length b']] wr _ from copyInstr_any c _ _ wr X1.out Y1.out (by have := HC.out; omega) (by have := HC.out; omega)).mono ?_
      rintro e w1 ⟨x', y', rfl, hx, hy, hF1⟩
      obtain ⟨xa, xc, rfl⟩ : ∃ xa xc, x' = .slice xa c.args.length xc := by obtain ⟨xa, xc, e, -⟩ := hx.ia; exact ⟨xa, xc, e⟩
      obtain ⟨ya, yc, rfl⟩ : ∃ ya yc, y' = .slice ya c.rets.length yc := by obtain ⟨ya, yc, e, -⟩ := hy.ia; exact ⟨ya, yc, e⟩
      obtain ⟨wb, hwb⟩ : ∃ wb, wb = w1.alloc (.cells #[vI c.op, vI c.r, vI c.s, vI c.t, vI c.n, .slice xa c.args.length xc, .slice ya c.rets.length yc] 71) := ⟨_, rfl⟩
      have hFb : Fr (fun _ => False) w1 wb := by rw [hwb]; exact Fr.alloc (Fr.refl _ w1) _
      have hFc : Fr (fun _ => False) w1 (wb.alloc (.cells #[vI c.op, vI c.r, vI c.s, vI c.t, vI c.n, .slice xa c.args.length xc, .slice ya c.rets.length yc] 71)) := Fr.alloc hFb _
      have b1 : wb.heap[w1.heap.size]? = some (.cells #[vI c.op, vI c.r, vI c.s, vI c.t, vI c.n, .slice xa c.args.length xc, .slice ya c.rets.length yc] 71) := by rw [hwb]; exact heap_new w1 _
      have HO1 : Hd (CO (wb.alloc (.cells #[vI c.op, vI c.r, vI c.s, vI c.t, vI c.n, .slice xa c.args.length xc, .slice ya c.rets.length yc] 71)) w.heap.size u3 L) := HO.out.stay (hF1.trans hFc)
      have HX1 : Hd (IOwn (wb.alloc (.cells #[vI c.op, vI c.r, vI c.s, vI c.t, vI c.n, .slice xa c.args.length xc, .slice ya c.rets.length yc] 71)) w.heap.size (.slice xa c.args.length xc) c.args) := (hx.fr hFc (fun _ _ e => e)).mono HF.out.size
      have HY1 : Hd (IOwn (wb.alloc (.cells #[vI c.op, vI c.r, vI c.s, vI c.t, vI c.n, .slice xa c.args.length xc, .slice ya c.rets.length yc] 71)) w.heap.size (.slice ya c.rets.length yc) c.rets) := (hy.fr hFc (fun _ _ e => e)).mono HF.out.size
      have HF1 : Hd (Fr (fun _ => False) w (wb.alloc (.cells #[vI c.op, vI c.r, vI c.s, vI c.t, vI c.n, .slice xa c.args.length xc, .slice ya c.rets.length yc] 71))) := HF.out.trans (hF1.trans hFc)
      have HWB : Hd (wb = w1.alloc (.cells #[vI c.op, vI c.r, vI c.s, vI c.t, vI c.n, .slice xa c.args.length xc, .slice ya c.rets.length yc] 71)) := hwb
      have HRW : Hd ((wb.alloc (.cells #[vI c.op, vI c.r, vI c.s, vI c.t, vI c.n, .slice xa c.args.length xc, .slice ya c.rets.length yc] 71)).ownsRow w.heap.size 71 7 u3 L.length (L.flatMap rowI)) := HO1.out.row
      have hnews : ∀ j u, [vI c.op, vI c.r, vI c.s, vI c.t, vI c.n, .slice xa c.args.length xc, .slice ya c.rets.length yc][j]? = some u → (wb.alloc (.cells #[vI c.op, vI c.r, vI c.s, vI c.t, vI c.n, .slice xa c.args.length xc, .slice ya c.rets.length yc] 71)).cell? ((⟨wb.heap.size, 0, none⟩ : Addr).add j) = some u :=
        World.news_of_block (cs := #[vI c.op, vI c.r, vI c.s, vI c.t, vI c.n, .slice xa c.args.length xc, .slice ya c.rets.length yc]) (heap_new wb _)
      have hbase : w.heap.size ≤ (wb.alloc (.cells #[vI c.op, vI c.r, vI c.s, vI c.t, vI c.n, .slice xa c.args.length xc, .slice ya c.rets.length yc] 71)).heap.size := HF1.out.size
      have hEl : L.length + 1 ≤ 1599289640355 := by have := HLL.out; omega
      have u0 : wb.cell? ⟨w1.heap.size, 0, none⟩ = some (vI c.op) := by rw [cell_of b1]; rfl
      have u1 : wb.cell? ⟨w1.heap.size, 1, none⟩ = some (vI c.r) := by rw [cell_of b1]; rfl
      have u2 : wb.cell? ⟨w1.heap.size, 2, none⟩ = some (vI c.s) := by rw [cell_of b1]; rfl
      have u3' : wb.cell? ⟨w1.heap.size, 3, none⟩ = some (vI c.t) := by rw [cell_of b1]; rfl
      have u4 : wb.cell? ⟨w1.heap.size, 4, none⟩ = some (vI c.n) := by rw [cell_of b1]; rfl
      have u5 : wb.cell? ⟨w1.heap.size, 5, none⟩ = some (.slice xa c.args.length xc) := by rw [cell_of b1]; rfl
      have u6 : wb.cell? ⟨w1.heap.size, 6, none⟩ = some (.slice ya c.rets.length yc) := by rw [cell_of b1]; rfl
      clear hx hy hF1 hFb hFc b1 HO HF hwb p0 p1 p2 p3 p4 p5 p6
      go_upto_region 6 with fail
      rw [← HWB.out]
      clear HWB
      go_wp2_with ((at_builtin; refine Hd.out ?_))
      unfold Hd
      refine wpList_append_lies _ rfl (.tmp 17) (.tmp 19) 65 rfl w.heap.size 71 i7 (.agg #[vI 0, vI 0, vI 0, vI 0, vI 0, .slice none 0 0, .slice none 0 0]) 7 88 under65 hi7 hz7 hs7 hb7 rfl (by omega) u3 L.length _ rfl HRW.out ⟨wb.heap.size, 0, none⟩ 1 1 [vI c.op, vI c.r, vI c.s, vI c.t, vI c.n, .slice xa c.args.length xc, .slice ya c.rets.length yc] rfl rfl hnews (by intro u hu; simp at hu; rcases hu with rfl | rfl | rfl | rfl | rfl | rfl | rfl <;> rfl) (by omega) (by unfold maxLen; omega) (by omega) hbase (wb.heap.size + 1) (by simp) ?_
      intro g6 cap6 w6 hown6 hgrow6 hat6 hlt6
      have hF6 := grown_frL hgrow6
      have HO6 : Hd (CO w6 w.heap.size (.slice (some ⟨g6, 0, none⟩) (L.length + 1) cap6) (L ++ [(c, .slice xa c.args.length xc, .slice ya c.rets.length yc)])) := by
        refine ⟨?_, fun x hx => ?_⟩
        · rw [List.length_append, List.flatMap_append]
          simpa using hown6
        · rcases List.mem_append.1 hx with hx | hx
          · have hi := HO1.out.ints x hx
            exact ⟨hi.1.fr hF6 (fun j e e2 => own_apart HRW.out hi.1 (by decide) j e e2), hi.2.fr hF6 (fun j e e2 => own_apart HRW.out hi.2 (by decide) j e e2)⟩
          · simp at hx
            subst hx
            exact ⟨HX1.out.fr hF6 (fun j e e2 => own_apart HRW.out HX1.out (by decide) j e e2), HY1.out.fr hF6 (fun j e e2 => own_apart HRW.out HY1.out (by decide) j e e2)⟩
      have HF6 : Hd (Fr (fun _ => False) w w6) := grow_fr0 HF1.out hgrow6 (fun k hk => (World.ownsRow.lt HRW.out k hk).1)
      have HM6 : Hd ((L ++ [(c, Value.slice xa c.args.length xc, Value.slice ya c.rets.length yc)]).map (·.1) = cs.take (k + 1)) := by
        unfold Hd
        rw [HT.out, List.map_append, HM.out]
        rfl
      clear hown6 hgrow6 hat6 hlt6 HO1 HF1 HRW hnews hbase hF6 HX1 HY1 u0 u1 u2 u3' u4 u5 u6
      go_wp2_with fail
      exact ⟨⟨k + 1, _, by simp, by omega, HO6.out, HM6.out, HF6.out⟩, by simp; omega⟩
    · have hke : k = cs.length := by omega
      subst hke
      have HM2 : Hd (L.map (·.1) = cs) := by have := HM.out; rw [List.take_length] at this; exact this
      clear HM
      go_wp2_with fail
      go_ret
      exact ⟨u3, L, rfl, HO.out, HM2.out, HF.out⟩
set_option maxRecDepth 100000
set_option maxHeartbeats 2000000
abbrev FI := PF × Value × List CI
abbrev rowF (x : FI) : List Value := fR x.1 x.2.1
structure FO (w : World) (B : Nat) (v : Value) (L : List FI) : Prop where
  row : w.ownsRow B 67 4 v L.length (L.flatMap rowF)
  code : ∀ x ∈ L, CO w B x.2.1 x.2.2 ∧ x.2.2.map (·.1) = x.1.code
theorem FO.fa {w : World} {B : Nat} {v : Value} {L : List FI} (h : FO w B v L) : FA w v (L.map (·.1)) := by
  rcases h.row.2 with ⟨h2, h3⟩ | ⟨g, cap, cur, e, -⟩
  · refine ⟨none, 0, by rw [h2, List.length_map, h3], fun hne => ?_⟩
    exact absurd (by rw [List.eq_nil_of_length_eq_zero h3]; rfl) hne
  · refine ⟨some ⟨g, 0, none⟩, cap, by rw [e, List.length_map], fun _ => ⟨g, 0, rfl, (World.ownsRow.lt h.row g (by rw [e]; rfl)).2, fun j hj => ?_⟩⟩
    have hj' : j < L.length := by simpa using hj
    have pc : ∀ o u, o < 4 → (rowF L[j])[o]? = some u → w.cell? ⟨g, j * 4 + o, none⟩ = some u := fun o u ho hu => by
      obtain ⟨g', cap', e', -, hc⟩ := own_cell h.row (j := j * 4 + o) (u := u) (by rw [flat_get rowF 4 (fun _ => rfl) L j o hj' ho]; exact hu)
      rw [e] at e'
      cases e'
      exact hc
    have hi := h.code L[j] (List.getElem_mem hj')
    rw [Nat.zero_add]
    simp only [List.getElem_map]
    refine ⟨L[j].2.1, pc 0 _ (by omega) rfl, pc 1 _ (by omega) rfl, pc 2 _ (by omega) rfl, pc 3 _ (by omega) rfl, ?_⟩
    rw [← hi.2]
    exact hi.1.ca
theorem FO.stay {w w' : World} {B : Nat} {v : Value} {L : List FI} (h : FO w B v L) (f : Fr (fun _ => False) w w') : FO w' B v L := ⟨ownsRow_frL h.row f (fun _ _ e => e), fun x hx => ⟨(h.code x hx).1.stay f, (h.code x hx).2⟩⟩
theorem CO.shape {w : World} {B : Nat} {v : Value} {L : List CI} (h : CO w B v L) : ∃ a c, v = .slice a L.length c := by
  rcases h.row.2 with ⟨h2, h3⟩ | ⟨g, cap, cur, e, -⟩
  · exact ⟨none, 0, by rw [h2, h3]⟩
  · exact ⟨_, _, e⟩
theorem copyFunc_any (f : PF) (x : Value) (w : World) (h1 : CA w x f.code) (hn : FineC f.code) :
    Calls Tryd.prog 66 #[.agg #[vI f.P, vI f.R, vI f.V, x]] w fun e w' => ∃ x' L, e = .returned (.agg #[vI f.P, vI f.R, vI f.V, x']) ∧ CO w' w.heap.size x' L ∧ L.map (·.1) = f.code ∧ Fr (fun _ => False) w w' := by
  obtain ⟨a1, b1, e1, -⟩ := id h1
  obtain ⟨wa, hwa⟩ : ∃ wa, wa = (w.alloc (.cells #[vI f.P, vI f.R, vI f.V, x] 67)).alloc (.cells #[vI 0, vI 0, vI 0, .slice none 0 0] 67) := ⟨_, rfl⟩
  have hF : Fr (fun _ => False) w wa := by rw [hwa]; exact Fr.alloc (Fr.alloc (Fr.refl _ w) _) _
  have hsz : wa.heap.size = w.heap.size + 2 := by rw [hwa]; simp
  have b1' : wa.heap[w.heap.size]? = some (.cells #[vI f.P, vI f.R, vI f.V, x] 67) := by
    rw [hwa, Go.RowKit.Below.heap_alloc _ _ _ (by simp)]; exact heap_new w _
  have b2' : wa.heap[w.heap.size + 1]? = some (.cells #[vI 0, vI 0, vI 0, .slice none 0 0] 67) := by
    rw [hwa, show w.heap.size + 1 = (w.alloc (.cells #[vI f.P, vI f.R, vI f.V, x] 67)).heap.size by simp]; exact heap_new _ _
  have HWA : Hd (wa = (w.alloc (.cells #[vI f.P, vI f.R, vI f.V, x] 67)).alloc (.cells #[vI 0, vI 0, vI 0, .slice none 0 0] 67)) := hwa
  have G1 : Hd (CA wa x f.code) := h1.stay hF
  have HF : Hd (Fr (fun _ => False) w wa) := hF
  obtain ⟨H, hH⟩ : ∃ H, H = w.heap.size := ⟨_, rfl⟩
  have HH : Hd (H = w.heap.size) := hH
  have HSZ : Hd (wa.heap.size = H + 2) := by rw [hH]; exact hsz
  rw [← hH] at b1' b2'
  have B1 : Hd _ := b1'
  have B2 : Hd _ := b2'
  have p3 : wa.cell? ⟨H, 3, none⟩ = some x := by rw [cell_of b1']; rfl
  subst e1
  clear h1 hF hsz hwa hH b1' b2'
  go_enter Tryd.func66, Tryd.ntmps66
  go_upto_region 1 with fail
  rw [← HWA.out, ← HH.out]
  clear HWA
  go_wp2_with fail
  refine (show Calls Tryd.prog 94 #[.slice a1 f.code.length b1] wa _ from copyCode_any _ f.code wa G1.out hn).mono ?_
  rintro e w2 ⟨x', L, rfl, hx', hL, hF2⟩
  have B1' : w2.heap[H]? = some (.cells #[vI f.P, vI f.R, vI f.V, .slice a1 f.code.length b1] 67) := (hF2.block H (heap_lt B1.out) (fun e => e)).trans B1.out
  have B2' : w2.heap[H + 1]? = some (.cells #[vI 0, vI 0, vI 0, .slice none 0 0] 67) := (hF2.block (H + 1) (heap_lt B2.out) (fun e => e)).trans B2.out
  obtain ⟨xa, xc, exa⟩ := hx'.shape
  have q3 : w2.cell? ⟨H, 3, none⟩ = some (.slice a1 f.code.length b1) := by rw [cell_of B1']; rfl
  have z3 := frozen_of B1' 3
  have fs2 := setCell_fr w2 H 3 x'
  have C1 : Hd ((w2.setCell ⟨H, 3, none⟩ x').heap[H]? = some (.cells #[vI f.P, vI f.R, vI f.V, x'] 67)) := set_of B1' 3 x'
  have C2 : Hd ((w2.setCell ⟨H, 3, none⟩ x').heap[H + 1]? = some (.cells #[vI 0, vI 0, vI 0, .slice none 0 0] 67)) := (fs2.block (H + 1) (heap_lt B2') (by omega)).trans B2'
  have hx2 := hx'.mono (B' := H + 2) (by rw [HSZ.out]; exact Nat.le_refl _)
  have HX : Hd (CO (w2.setCell ⟨H, 3, none⟩ x') (H + 2) x' L) := hx2.fr fs2 (fun k e e2 => by have := (World.ownsRow.lt hx2.row k e).1; omega) (fun y hy k e e2 => by
    rcases e with e | e
    · have := ((hx2.ints y hy).1.ge k e).1; omega
    · have := ((hx2.ints y hy).2.ge k e).1; omega)
  have HF2 : Hd (Fr (fun _ => False) w (w2.setCell ⟨H, 3, none⟩ x')) := (HF.out.trans hF2).then fs2 (fun j hj e => by have := HH.out; omega)
  have HLL : Hd (L.map (·.1) = f.code) := hL
  subst exa
  clear hx' hx2 hL hF2 fs2 B1' B2' p3 B1 B2 G1 HF HSZ
  go_upto_region 2 with fail
  clear q3 z3
  generalize w2.setCell ⟨H, 3, none⟩ (.slice xa L.length xc) = w5 at *
  have c0 : w5.cell? ⟨H, 0, none⟩ = some (vI f.P) := by rw [cell_of C1.out]; rfl
  have c1 : w5.cell? ⟨H, 1, none⟩ = some (vI f.R) := by rw [cell_of C1.out]; rfl
  have c2 : w5.cell? ⟨H, 2, none⟩ = some (vI f.V) := by rw [cell_of C1.out]; rfl
  have c3 : w5.cell? ⟨H, 3, none⟩ = some (.slice xa L.length xc) := by rw [cell_of C1.out]; rfl
  have d0 : w5.cell? ⟨H + 1, 0, none⟩ = some (vI 0) := by rw [cell_of C2.out]; rfl
  have d1 : w5.cell? ⟨H + 1, 1, none⟩ = some (vI 0) := by rw [cell_of C2.out]; rfl
  have d2 : w5.cell? ⟨H + 1, 2, none⟩ = some (vI 0) := by rw [cell_of C2.out]; rfl
  have d3 : w5.cell? ⟨H + 1, 3, none⟩ = some (.slice none 0 0) := by rw [cell_of C2.out]; rfl
  have y0 := frozen_of C2.out 0
  have y1 := frozen_of C2.out 1
  have y2 := frozen_of C2.out 2
  have y3 := frozen_of C2.out 3
  have HLz : Hd ((fou4 w5 (H + 1) 0 (fR f (.slice xa L.length xc))).heap[H + 1]? = some (.cells #[vI f.P, vI f.R, vI f.V, .slice xa L.length xc] 67)) := set_of (set_of (set_of (set_of C2.out 0 _) 1 _) 2 _) 3 _
  have fs6 := fou4_fr w5 (H + 1) 0 (fR f (.slice xa L.length xc))
  have KX : Hd (CO (fou4 w5 (H + 1) 0 (fR f (.slice xa L.length xc))) w.heap.size (.slice xa L.length xc) L) := (HX.out.fr fs6 (fun k e e2 => by have := (World.ownsRow.lt HX.out.row k e).1; omega) (fun y hy k e e2 => by
    rcases e with e | e
    · have := ((HX.out.ints y hy).1.ge k e).1; omega
    · have := ((HX.out.ints y hy).2.ge k e).1; omega)).mono (by have := HH.out; omega)
  have KF : Hd (Fr (fun _ => False) w (fou4 w5 (H + 1) 0 (fR f (.slice xa L.length xc)))) := Fr.then HF2.out fs6 (fun j hj e => by have := HH.out; omega)
  clear fs6
  go_wp2_with fail
  change bodyPost _ _ _ _ _ (fou4 w5 (H + 1) 0 (fR f (.slice xa L.length xc)))
  generalize fou4 w5 (H + 1) 0 (fR f (.slice xa L.length xc)) = wz at *
  have e0 : wz.cell? ⟨H + 1, 0, none⟩ = some (vI f.P) := by rw [cell_of HLz.out]; rfl
  have e1 : wz.cell? ⟨H + 1, 1, none⟩ = some (vI f.R) := by rw [cell_of HLz.out]; rfl
  have e2 : wz.cell? ⟨H + 1, 2, none⟩ = some (vI f.V) := by rw [cell_of HLz.out]; rfl
  have e3 : wz.cell? ⟨H + 1, 3, none⟩ = some (.slice xa L.length xc) := by rw [cell_of HLz.out]; rfl
  refine bodyPost_ret (v := .agg #[vI f.P, vI f.R, vI f.V, .slice xa L.length xc]) ?_ rfl ⟨_, L, rfl, KX.out, HLL.out, KF.out⟩
  rw [results_cell (p := 2) (ty := 67) Tryd.results66]
  simp [go_sem, e0, e1, e2, e3]
theorem copyFuncs_any (v : Value) (fs : List PF) (w : World) (hl : FA w v fs) (hn : FineP fs) :
    Calls Tryd.prog 37 #[v] w fun e w' => ∃ v' L, e = .returned v' ∧ FO w' w.heap.size v' L ∧ L.map (·.1) = fs ∧ Fr (fun _ => False) w w' := by
  obtain ⟨ea, ec, rfl, hein⟩ := hl
  have HE : Hd _ := hein
  have HFI : Hd (FineP fs) := hn
  have hz := hn.1
  clear hein hn
  obtain ⟨i7, hi7, hz7, hs7, hb7⟩ := info_parts (P := Tryd.prog) (e := 67) (z := .agg #[vI 0, vI 0, vI 0, .slice none 0 0]) (size := 4) (bytes := 48) (by kernel_rfl)
  go_enter Tryd.func37, Tryd.ntmps37
  go_wp2_with fail
  go_loopw [3, 4] (fun mv v wr => ∃ (k : Nat) (L : List FI), v = .int .i64 k ∧ k ≤ fs.length ∧ Hd (FO wr w.heap.size mv L) ∧ Hd (L.map (·.1) = fs.take k) ∧ Hd (Fr (fun _ => False) w wr)) (fun _ v _ => match v with | .int _ q => fs.length - q.toNat | _ => 0)
  case atStart => exact ⟨0, [], rfl, Nat.zero_le _, ⟨World.ownsRow_nil _ _ _ _, fun x hx => by simp at hx⟩, rfl, Fr.refl _ _⟩
  case round =>
    obtain ⟨k, L, rfl, hk, HO, HM, HF⟩ := hrel
    by_cases hlt : k < fs.length
    · have hne : fs ≠ [] := by intro e; simp [e] at hlt
      obtain ⟨k1, o1, rfl, hk1, g1⟩ := HE.out hne
      obtain ⟨x1, p0, p1, p2, p3, ix1⟩ := g1 k hlt
      have m1 := fun o => HF.out.cell (o := o) hk1 (fun h => h)
      have p0 := (m1 _).trans p0
      have p1 := (m1 _).trans p1
      have p2 := (m1 _).trans p2
      have p3 := (m1 _).trans p3
      have X1 : Hd (CA wr x1 fs[k].code) := ix1.stay HF.out
      have HC : Hd (FineC fs[k].code) := HFI.out.2 _ (List.getElem_mem hlt)
      have HT : Hd (fs.take (k + 1) = fs.take k ++ [fs[k]]) := by unfold Hd; rw [List.take_add_one, List.getElem?_eq_getElem hlt]; rfl
      have HLL : Hd (L.length = k) := by have := congrArg List.length HM.out; simp at this; unfold Hd; omega
      generalize fs[k] = f at *
      obtain ⟨a, b, e1, -⟩ := ix1
      subst e1
      have hk0 : (0 : Int) ≤ k := by omega
      have hk3 : (k : Int) < fs.length := by omega
      clear g1 m1
      go_wp2_with fail
      refine (show Calls Tryd.prog 66 #[.agg #[vI f.P, vI f.R, vI f.V, .slice a f.code.length b]] wr _ from copyFunc_any f _ wr X1.out HC.out).mono ?_
      rintro e w1 ⟨x', Lx, rfl, hx, hLx, hF1⟩
      obtain ⟨xa, xc, rfl⟩ := hx.shape
      obtain ⟨wb, hwb⟩ : ∃ wb, wb = w1.alloc (.cells #[vI f.P, vI f.R, vI f.V, .slice xa Lx.length xc] 67) := ⟨_, rfl⟩
      have hFb : Fr (fun _ => False) w1 wb := by rw [hwb]; exact Fr.alloc (Fr.refl _ w1) _
      have hFc : Fr (fun _ => False) w1 (wb.alloc (.cells #[vI f.P, vI f.R, vI f.V, .slice xa Lx.length xc] 67)) := Fr.alloc hFb _
      have b1 : wb.heap[w1.heap.size]? = some (.cells #[vI f.P, vI f.R, vI f.V, .slice xa Lx.length xc] 67) := by rw [hwb]; exact heap_new w1 _
      have HO1 : Hd (FO (wb.alloc (.cells #[vI f.P, vI f.R, vI f.V, .slice xa Lx.length xc] 67)) w.heap.size u3 L) := HO.out.stay (hF1.trans hFc)
      have HX1 : Hd (CO (wb.alloc (.cells #[vI f.P, vI f.R, vI f.V, .slice xa Lx.length xc] 67)) w.heap.size (.slice xa Lx.length xc) Lx) := (hx.stay hFc).mono HF.out.size
      have HLX : Hd (Lx.map (·.1) = f.code) := hLx
      have HF1 : Hd (Fr (fun _ => False) w (wb.alloc (.cells #[vI f.P, vI f.R, vI f.V, .slice xa Lx.length xc] 67))) := HF.out.trans (hF1.trans hFc)
      have HWB : Hd (wb = w1.alloc (.cells #[vI f.P, vI f.R, vI f.V, .slice xa Lx.length xc] 67)) := hwb
      have HRW : Hd ((wb.alloc (.cells #[vI f.P, vI f.R, vI f.V, .slice xa Lx.length xc] 67)).ownsRow w.heap.size 67 4 u3 L.length (L.flatMap rowF)) := HO1.out.row
      have hnews : ∀ j u, [vI f.P, vI f.R, vI f.V, .slice xa Lx.length xc][j]? = some u → (wb.alloc (.cells #[vI f.P, vI f.R, vI f.V, .slice xa Lx.length xc] 67)).cell? ((⟨wb.heap.size, 0, none⟩ : Addr).add j) = some u :=
        World.news_of_block (cs := #[vI f.P, vI f.R, vI f.V, .slice xa Lx.length xc]) (heap_new wb _)
      have hbase : w.heap.size ≤ (wb.alloc (.cells #[vI f.P, vI f.R, vI f.V, .slice xa Lx.length xc] 67)).heap.size := HF1.out.size
      have hEl : L.length + 1 ≤ 2932031007318 := by have := HLL.out; omega
      have u0 : wb.cell? ⟨w1.heap.size, 0, none⟩ = some (vI f.P) := by rw [cell_of b1]; rfl
      have u1 : wb.cell? ⟨w1.heap.size, 1, none⟩ = some (vI f.R) := by rw [cell_of b1]; rfl
      have u2 : wb.cell? ⟨w1.heap.size, 2, none⟩ = some (vI f.V) := by rw [cell_of b1]; rfl
      have u3' : wb.cell? ⟨w1.heap.size, 3, none⟩ = some (.slice xa Lx.length xc) := by rw [cell_of b1]; rfl
      clear hx hLx hF1 hFb hFc b1 HO HF hwb p0 p1 p2 p3
      go_upto_region 6 with fail
      rw [← HWB.out]
      clear HWB
      go_wp2_with ((at_builtin; refine Hd.out ?_))
      unfold Hd
      refine wpList_append_lies _ rfl (.tmp 17) (.tmp 19) 24 rfl w.heap.size 67 i7 (.agg #[vI 0, vI 0, vI 0, .slice none 0 0]) 4 48 under24 hi7 hz7 hs7 hb7 rfl (by omega) u3 L.length _ rfl HRW.out ⟨wb.heap.size, 0, none⟩ 1 1 [vI f.P, vI f.R, vI f.V, .slice xa Lx.length xc] rfl rfl hnews (by intro u hu; simp at hu; rcases hu with rfl | rfl | rfl | rfl <;> rfl) (by omega) (by unfold maxLen; omega) (by omega) hbase (wb.heap.size + 1) (by simp) ?_
      intro g6 cap6 w6 hown6 hgrow6 hat6 hlt6
      have hF6 := grown_frL hgrow6
      have HO6 : Hd (FO w6 w.heap.size (.slice (some ⟨g6, 0, none⟩) (L.length + 1) cap6) (L ++ [(f, .slice xa Lx.length xc, Lx)])) := by
        have keep : ∀ (v : Value) (M : List CI), CO (wb.alloc (.cells #[vI f.P, vI f.R, vI f.V, .slice xa Lx.length xc] 67)) w.heap.size v M → CO w6 w.heap.size v M := fun v M hM =>
          hM.fr hF6 (fun j e e2 => own_apart HRW.out hM.row (by decide) j e e2) (fun y hy j e e2 => by
            rcases e with e | e
            · exact own_apart HRW.out (hM.ints y hy).1 (by decide) j e e2
            · exact own_apart HRW.out (hM.ints y hy).2 (by decide) j e e2)
        refine ⟨?_, fun x hx => ?_⟩
        · rw [List.length_append, List.flatMap_append]
          simpa using hown6
        · rcases List.mem_append.1 hx with hx | hx
          · exact ⟨keep _ _ (HO1.out.code x hx).1, (HO1.out.code x hx).2⟩
          · simp at hx
            subst hx
            exact ⟨keep _ _ HX1.out, HLX.out⟩
      have HF6 : Hd (Fr (fun _ => False) w w6) := grow_fr0 HF1.out hgrow6 (fun k hk => (World.ownsRow.lt HRW.out k hk).1)
      have HM6 : Hd ((L ++ [(f, Value.slice xa Lx.length xc, Lx)]).map (·.1) = fs.take (k + 1)) := by
        unfold Hd
        rw [HT.out, List.map_append, HM.out]
        rfl
      clear hown6 hgrow6 hat6 hlt6 HO1 HF1 HRW hnews hbase hF6 HX1 u0 u1 u2 u3'
      go_wp2_with fail
      exact ⟨⟨k + 1, _, by simp, by omega, HO6.out, HM6.out, HF6.out⟩, by simp; omega⟩
    · have hke : k = fs.length := by omega
      subst hke
      have HM2 : Hd (L.map (·.1) = fs) := by have := HM.out; rw [List.take_length] at this; exact this
      clear HM
      go_wp2_with fail
      go_ret
      exact ⟨u3, L, rfl, HO.out, HM2.out, HF.out⟩
set_option maxRecDepth 100000
set_option maxHeartbeats 2000000
theorem FO.shape {w : World} {B : Nat} {v : Value} {L : List FI} (h : FO w B v L) : ∃ a c, v = .slice a L.length c := by
  rcases h.row.2 with ⟨h2, h3⟩ | ⟨g, cap, cur, e, -⟩
  · exact ⟨none, 0, by rw [h2, h3]⟩
  · exact ⟨_, _, e⟩
theorem FO.far {S : Nat → Prop} {w w' : World} {B : Nat} {v : Value} {L : List FI} (h : FO w B v L) (f : Fr S w w') (hS : ∀ k, S k → k < B) : FO w' B v L := by
  have no : ∀ k, B ≤ k → ¬ S k := fun k hk e => by have := hS k e; omega
  refine ⟨ownsRow_frL h.row f (fun k e => no k (World.ownsRow.lt h.row k e).1), fun x hx => ⟨(h.code x hx).1.fr f (fun k e => no k (World.ownsRow.lt (h.code x hx).1.row k e).1) (fun y hy k e => ?_), (h.code x hx).2⟩⟩
  rcases e with e | e
  · exact no k (((h.code x hx).1.ints y hy).1.ge k e).1
  · exact no k (((h.code x hx).1.ints y hy).2.ge k e).1
theorem FO.mono {w : World} {B B' : Nat} {v : Value} {L : List FI} (h : FO w B v L) (hB : B' ≤ B) : FO w B' v L := ⟨World.ownsRow.mono h.row hB, fun x hx => ⟨(h.code x hx).1.mono hB, (h.code x hx).2⟩⟩
theorem copyProgram_any (G : Int) (v : Value) (fs : List PF) (w : World) (hl : FA w v fs) (hn : FineP fs) :
    Calls Tryd.prog 13 #[.agg #[vI G, v]] w fun e w' => ∃ v', e = .returned (.agg #[vI G, v']) ∧ FA w' v' fs ∧ Fr (fun _ => False) w w' := by
  obtain ⟨a1, b1, e1, -⟩ := id hl
  obtain ⟨wa, hwa⟩ : ∃ wa, wa = (w.alloc (.cells #[vI G, v] 26)).alloc (.cells #[vI 0, .slice none 0 0] 26) := ⟨_, rfl⟩
  have hF : Fr (fun _ => False) w wa := by rw [hwa]; exact Fr.alloc (Fr.alloc (Fr.refl _ w) _) _
  have hsz : wa.heap.size = w.heap.size + 2 := by rw [hwa]; simp
  have b1' : wa.heap[w.heap.size]? = some (.cells #[vI G, v] 26) := by
    rw [hwa, Go.RowKit.Below.heap_alloc _ _ _ (by simp)]; exact heap_new w _
  have b2' : wa.heap[w.heap.size + 1]? = some (.cells #[vI 0, .slice none 0 0] 26) := by
    rw [hwa, show w.heap.size + 1 = (w.alloc (.cells #[vI G, v] 26)).heap.size by simp]; exact heap_new _ _
  have HWA : Hd (wa = (w.alloc (.cells #[vI G, v] 26)).alloc (.cells #[vI 0, .slice none 0 0] 26)) := hwa
  have G1 : Hd (FA wa v fs) := hl.stay hF
  have HF : Hd (Fr (fun _ => False) w wa) := hF
  obtain ⟨H, hH⟩ : ∃ H, H = w.heap.size := ⟨_, rfl⟩
  have HH : Hd (H = w.heap.size) := hH
  have HSZ : Hd (wa.heap.size = H + 2) := by rw [hH]; exact hsz
  rw [← hH] at b1' b2'
  have B1 : Hd _ := b1'
  have B2 : Hd _ := b2'
  have p0 : wa.cell? ⟨H, 0, none⟩ = some (vI G) := by rw [cell_of b1']; rfl
  have p1 : wa.cell? ⟨H, 1, none⟩ = some v := by rw [cell_of b1']; rfl
  subst e1
  clear hl hF hsz hwa hH b1' b2'
  go_enter Tryd.func13, Tryd.ntmps13
  go_upto_region 1 with fail
  rw [← HWA.out, ← HH.out]
  clear HWA
  go_region_held3 (fun w' => w'.cell? ⟨H, 0, none⟩ = some (vI G) ∧ w'.cell? ⟨H, 1, none⟩ = some (.slice a1 fs.length b1)) (go_keep) ((
    go_at_call 37
    refine (show Calls Tryd.prog 37 #[.slice a1 fs.length b1] wa.drew _ from copyFuncs_any _ fs wa.drew G1.out hn).mono ?_
    rintro e w2 ⟨x', L, rfl, hx', hL, hF2⟩
    have hG2 : Fr (fun _ => False) wa w2 := (Fr.refl _ wa).drew.trans hF2
    have B1' : w2.heap[H]? = some (.cells #[vI G, .slice a1 fs.length b1] 26) := (hG2.block H (heap_lt B1.out) (fun e => e)).trans B1.out
    have B2' : w2.heap[H + 1]? = some (.cells #[vI 0, .slice none 0 0] 26) := (hG2.block (H + 1) (heap_lt B2.out) (fun e => e)).trans B2.out
    have s0 : w2.cell? ⟨H, 0, none⟩ = some (vI G) := by rw [cell_of B1']; rfl
    have s1 : w2.cell? ⟨H, 1, none⟩ = some (.slice a1 fs.length b1) := by rw [cell_of B1']; rfl
    have d0 : w2.cell? ⟨H + 1, 0, none⟩ = some (vI 0) := by rw [cell_of B2']; rfl
    have d1 : w2.cell? ⟨H + 1, 1, none⟩ = some (.slice none 0 0) := by rw [cell_of B2']; rfl
    have y0 := frozen_of B2' 0
    have y1 := frozen_of B2' 1
    have HX : Hd (FO w2 (H + 2) x' L) := hx'.mono (by have := HSZ.out; show H + 2 ≤ wa.heap.size; omega)
    have HLL : Hd (L.map (·.1) = fs) := hL
    have HF2 : Hd (Fr (fun _ => False) w w2) := HF.out.trans hG2
    have HB2 : Hd (w2.heap[H + 1]? = some (.cells #[vI 0, .slice none 0 0] 26)) := B2'
    obtain ⟨xa, xc, rfl⟩ := hx'.shape
    clear hx' hL hF2 hG2 B1' B2'))
  all_goals
    have HZ : Hd (((w2.setCell ⟨H + 1, 0, none⟩ (vI G)).setCell ⟨H + 1, 1, none⟩ (.slice xa L.length xc)).heap[H + 1]? = some (.cells #[vI G, .slice xa L.length xc] 26)) := set_of (set_of HB2.out 0 _) 1 _
    have fs6 : Fr (fun j => j = H + 1) w2 ((w2.setCell ⟨H + 1, 0, none⟩ (vI G)).setCell ⟨H + 1, 1, none⟩ (.slice xa L.length xc)) := Fr.setCell (S := fun j => j = H + 1) (Fr.setCell (S := fun j => j = H + 1) (Fr.refl _ w2) _ _ (Or.inl rfl)) _ _ (Or.inl rfl)
    have KX : Hd (FA ((w2.setCell ⟨H + 1, 0, none⟩ (vI G)).setCell ⟨H + 1, 1, none⟩ (.slice xa L.length xc)) (.slice xa L.length xc) fs) := by
      have := (HX.out.far fs6 (fun k e => by omega)).fa
      rw [HLL.out] at this
      exact this
    have KF : Hd (Fr (fun _ => False) w ((w2.setCell ⟨H + 1, 0, none⟩ (vI G)).setCell ⟨H + 1, 1, none⟩ (.slice xa L.length xc))) := Fr.then HF2.out fs6 (fun j hj e => by have := HH.out; omega)
    clear fs6
    go_wp2_with fail
    generalize (w2.setCell ⟨H + 1, 0, none⟩ (vI G)).setCell ⟨H + 1, 1, none⟩ (.slice xa L.length xc) = wz at *
    have e0 : wz.cell? ⟨H + 1, 0, none⟩ = some (vI G) := by rw [cell_of HZ.out]; rfl
    have e1 : wz.cell? ⟨H + 1, 1, none⟩ = some (.slice xa L.length xc) := by rw [cell_of HZ.out]; rfl
    refine bodyPost_ret (v := .agg #[vI G, .slice xa L.length xc]) ?_ rfl ⟨_, rfl, KX.out, KF.out⟩
    rw [results_cell (p := 2) (ty := 26) Tryd.results13]
    simp [go_sem, e0, e1]
end Go.Proofs.YtingenonbkencaaDoor
