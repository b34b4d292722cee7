import Derived.Test.YtlmlmhinbkcpoaaGreatDoorQLfJ
namespace Go.Proofs.YtlmlmhinbkcpoaaGreatDoor
open Go.RowKit (wrap32 wrap64)
set_option linter.unusedVariables false
set_option linter.unusedSimpArgs false
set_option maxRecDepth 100000
set_option maxHeartbeats 2000000
theorem eqInstr_same (c : PI) (x1 y1 x2 y2 : Value) (w : World) (h1 : IA w x1 c.args) (h2 : IA w y1 c.rets) (h3 : IA w x2 c.args) (h4 : IA w y2 c.rets) (hla : c.args.length ≤ 17592186043904) (hlr : c.rets.length ≤ 17592186043904) :
    Calls Tryz.prog 83 #[.agg #[vI c.op, vI c.r, vI c.s, vI c.t, vI c.n, x1, y1], .agg #[vI c.op, vI c.r, vI c.s, vI c.t, vI c.n, x2, y2]] w fun e w' => e = .returned (.bool true) ∧ Fr (fun _ => False) w w' := by
  obtain ⟨a1, b1, e1, -⟩ := id h1
  obtain ⟨a2, b2, e2, -⟩ := id h2
  obtain ⟨a3, b3, e3, -⟩ := id h3
  obtain ⟨a4, b4, e4, -⟩ := id h4
  have hF : Fr (fun _ => False) w ((w.alloc (.cells #[vI c.op, vI c.r, vI c.s, vI c.t, vI c.n, x1, y1] 48)).alloc (.cells #[vI c.op, vI c.r, vI c.s, vI c.t, vI c.n, x2, y2] 48)) := Fr.alloc (Fr.alloc (Fr.refl _ w) _) _
  have HB1 : Hd (((w.alloc (.cells #[vI c.op, vI c.r, vI c.s, vI c.t, vI c.n, x1, y1] 48)).alloc (.cells #[vI c.op, vI c.r, vI c.s, vI c.t, vI c.n, x2, y2] 48)).heap[w.heap.size]? = some (.cells #[vI c.op, vI c.r, vI c.s, vI c.t, vI c.n, x1, y1] 48)) := by
    unfold Hd; rw [Go.RowKit.Below.heap_alloc _ _ _ (by simp)]; exact heap_new w _
  have HB2 : Hd (((w.alloc (.cells #[vI c.op, vI c.r, vI c.s, vI c.t, vI c.n, x1, y1] 48)).alloc (.cells #[vI c.op, vI c.r, vI c.s, vI c.t, vI c.n, x2, y2] 48)).heap[w.heap.size + 1]? = some (.cells #[vI c.op, vI c.r, vI c.s, vI c.t, vI c.n, x2, y2] 48)) := by
    unfold Hd; rw [show w.heap.size + 1 = (w.alloc (.cells #[vI c.op, vI c.r, vI c.s, vI c.t, vI c.n, x1, y1] 48)).heap.size by simp]; exact heap_new _ _
  have H1 := h1.stay hF
  have H2 := h2.stay hF
  have H3 := h3.stay hF
  have H4 := h4.stay hF
  have G1 : Hd _ := H1
  have G2 : Hd _ := H2
  have G3 : Hd _ := H3
  have G4 : Hd _ := H4
  have HF : Hd _ := hF
  clear h1 h2 h3 h4 H1 H2 H3 H4 hF
  subst e1; subst e2; subst e3; subst e4
  have q0 : (c.op == c.op) = true := by simp
  have q1 : (c.r == c.r) = true := by simp
  have q2 : (c.s == c.s) = true := by simp
  have q3 : (c.t == c.t) = true := by simp
  have q4 : (c.n == c.n) = true := by simp
  go_enter Tryz.func83, Tryz.ntmps83
  go_upto_region 1 with fail
  generalize (w.alloc (.cells #[vI c.op, vI c.r, vI c.s, vI c.t, vI c.n, .slice a1 c.args.length b1, .slice a2 c.rets.length b2] 48)).alloc (.cells #[vI c.op, vI c.r, vI c.s, vI c.t, vI c.n, .slice a3 c.args.length b3, .slice a4 c.rets.length b4] 48) = wa at *
  have c0 : wa.cell? ⟨w.heap.size, 0, none⟩ = some (vI c.op) := by rw [cell_of HB1.out]; rfl
  have c1 : wa.cell? ⟨w.heap.size, 1, none⟩ = some (vI c.r) := by rw [cell_of HB1.out]; rfl
  have c2 : wa.cell? ⟨w.heap.size, 2, none⟩ = some (vI c.s) := by rw [cell_of HB1.out]; rfl
  have c3 : wa.cell? ⟨w.heap.size, 3, none⟩ = some (vI c.t) := by rw [cell_of HB1.out]; rfl
  have c4 : wa.cell? ⟨w.heap.size, 4, none⟩ = some (vI c.n) := by rw [cell_of HB1.out]; rfl
  have c5 : wa.cell? ⟨w.heap.size, 5, none⟩ = some (.slice a1 c.args.length b1) := by rw [cell_of HB1.out]; rfl
  have d0 : wa.cell? ⟨w.heap.size + 1, 0, none⟩ = some (vI c.op) := by rw [cell_of HB2.out]; rfl
  have d1 : wa.cell? ⟨w.heap.size + 1, 1, none⟩ = some (vI c.r) := by rw [cell_of HB2.out]; rfl
  have d2 : wa.cell? ⟨w.heap.size + 1, 2, none⟩ = some (vI c.s) := by rw [cell_of HB2.out]; rfl
  have d3 : wa.cell? ⟨w.heap.size + 1, 3, none⟩ = some (vI c.t) := by rw [cell_of HB2.out]; rfl
  have d4 : wa.cell? ⟨w.heap.size + 1, 4, none⟩ = some (vI c.n) := by rw [cell_of HB2.out]; rfl
  have d5 : wa.cell? ⟨w.heap.size + 1, 5, none⟩ = some (.slice a3 c.args.length b3) := by rw [cell_of HB2.out]; rfl
  go_wp2_with fail
  refine (show Calls Tryz.prog 46 #[.slice a1 c.args.length b1, .slice a3 c.args.length b3] wa _ from eqInts_same _ _ c.args wa G1.out G3.out hla).mono ?_
  rintro e w1 ⟨rfl, hF1⟩
  have G2' : Hd (IA w1 (.slice a2 c.rets.length b2) c.rets) := IA.stay G2.out hF1
  have G4' : Hd (IA w1 (.slice a4 c.rets.length b4) c.rets) := IA.stay G4.out hF1
  have p6 : w1.cell? ⟨w.heap.size, 6, none⟩ = some (.slice a2 c.rets.length b2) := by rw [hF1.cell (heap_lt HB1.out) (fun e => e), cell_of HB1.out]; rfl
  have r6 : w1.cell? ⟨w.heap.size + 1, 6, none⟩ = some (.slice a4 c.rets.length b4) := by rw [hF1.cell (heap_lt HB2.out) (fun e => e), cell_of HB2.out]; rfl
  have HF1 : Hd (Fr (fun _ => False) w w1) := HF.out.trans hF1
  clear hF1 c0 c1 c2 c3 c4 c5 d0 d1 d2 d3 d4 d5 HB1 HB2
  go_wp2_with fail
  refine (show Calls Tryz.prog 46 #[.slice a2 c.rets.length b2, .slice a4 c.rets.length b4] w1 _ from eqInts_same _ _ c.rets w1 G2'.out G4'.out hlr).mono ?_
  rintro e w2 ⟨rfl, hF2⟩
  have HF2 : Hd (Fr (fun _ => False) w w2) := HF1.out.trans hF2
  clear hF2
  go_wp2_with fail
  go_ret
  exact ⟨rfl, HF2.out⟩
theorem eqCode_same (v1 v2 : Value) (cs : List PI) (w : World) (h1 : CA w v1 cs) (h2 : CA w v2 cs) (hn : FineC cs) :
    Calls Tryz.prog 69 #[v1, v2] w fun e w' => e = .returned (.bool true) ∧ Fr (fun _ => False) w w' := by
  obtain ⟨a1, c1, rfl, hc1⟩ := h1
  obtain ⟨a2, c2, rfl, hc2⟩ := h2
  have H1 : Hd _ := hc1
  have H2 : Hd _ := hc2
  have HFI : Hd (FineC cs) := hn
  have hz := hn.1
  clear hc1 hc2 hn
  go_enter Tryz.func69, Tryz.ntmps69
  go_wp2_with fail
  go_loopw [5] (fun v wr => ∃ (k : Nat), v = .int .i64 k ∧ k ≤ cs.length ∧ Hd (Fr (fun _ => False) w wr)) (fun v _ => match v with | .int _ q => cs.length - q.toNat | _ => 0)
  case atStart => exact ⟨0, rfl, Nat.zero_le _, Fr.refl _ _⟩
  case round =>
    obtain ⟨k, rfl, hk, HF⟩ := hrel
    by_cases hlt : k < cs.length
    · have hne : cs ≠ [] := by intro e; simp [e] at hlt
      obtain ⟨k1, o1, rfl, hk1, g1⟩ := H1.out hne
      obtain ⟨k2, o2, rfl, hk2, g2⟩ := H2.out hne
      obtain ⟨x1, y1, p0, p1, p2, p3, p4, p5, p6, ix1, iy1⟩ := g1 k hlt
      obtain ⟨x2, y2, q0, q1, q2, q3, q4, q5, q6, ix2, iy2⟩ := g2 k hlt
      have m1 := fun o => HF.out.cell (o := o) hk1 (fun h => h)
      have m2 := fun o => HF.out.cell (o := o) hk2 (fun h => h)
      have p0 := (m1 _).trans p0
      have p1 := (m1 _).trans p1
      have p2 := (m1 _).trans p2
      have p3 := (m1 _).trans p3
      have p4 := (m1 _).trans p4
      have p5 := (m1 _).trans p5
      have p6 := (m1 _).trans p6
      have q0 := (m2 _).trans q0
      have q1 := (m2 _).trans q1
      have q2 := (m2 _).trans q2
      have q3 := (m2 _).trans q3
      have q4 := (m2 _).trans q4
      have q5 := (m2 _).trans q5
      have q6 := (m2 _).trans q6
      have X1 : Hd (IA wr x1 cs[k].args) := ix1.stay HF.out
      have Y1 : Hd (IA wr y1 cs[k].rets) := iy1.stay HF.out
      have X2 : Hd (IA wr x2 cs[k].args) := ix2.stay HF.out
      have Y2 : Hd (IA wr y2 cs[k].rets) := iy2.stay HF.out
      have HC : Hd (cs[k].args.length ≤ 17592186043904 ∧ cs[k].rets.length ≤ 17592186043904) := HFI.out.2 _ (List.getElem_mem hlt)
      generalize cs[k] = c at *
      obtain ⟨a, b, e1, -⟩ := ix1
      obtain ⟨a', b', e2, -⟩ := iy1
      obtain ⟨a'', b'', e3, -⟩ := ix2
      obtain ⟨a3, b3, e4, -⟩ := iy2
      subst e1; subst e2; subst e3; subst e4
      have hk0 : (0 : Int) ≤ k := by omega
      have hk3 : (k : Int) < cs.length := by omega
      clear g1 g2 m1 m2
      go_wp2_with fail
      refine wp_region_still_tail 8 mixed (by kernel_rfl) ?_
      simp only [List.take_succ_cons, List.take_zero, List.drop_succ_cons, List.drop_zero]
      repeat still_step
      refine wpStill_nil ?_
      go_wp2_with fail
      refine (show Calls Tryz.prog 83 #[.agg #[vI c.op, vI c.r, vI c.s, vI c.t, vI c.n, .slice a c.args.length b, .slice a' c.rets.length b'], .agg #[vI c.op, vI c.r, vI c.s, vI c.t, vI c.n, .slice a'' c.args.length b'', .slice a3 c.rets.length b3]] wr.drew _ from eqInstr_same c _ _ _ _ wr.drew X1.out Y1.out X2.out Y2.out (by have := HC.out; omega) (by have := HC.out; omega)).mono ?_
      rintro e w1 ⟨rfl, hF1⟩
      have HF1 : Hd (Fr (fun _ => False) w w1) := HF.out.drew.trans hF1
      clear hF1 p0 p1 p2 p3 p4 p5 p6 q0 q1 q2 q3 q4 q5 q6
      go_wp2_with fail
      exact ⟨⟨k + 1, by simp, by omega, HF1.out⟩, by simp; omega⟩
    · have hke : k = cs.length := by omega
      subst hke
      go_wp2_with fail
      go_ret
      exact ⟨rfl, HF.out⟩
theorem eqFunc_same (f : PF) (x1 x2 : Value) (w : World) (h1 : CA w x1 f.code) (h3 : CA w x2 f.code) (hn : FineC f.code) :
    Calls Tryz.prog 45 #[.agg #[vI f.P, vI f.R, vI f.V, x1], .agg #[vI f.P, vI f.R, vI f.V, x2]] w fun e w' => e = .returned (.bool true) ∧ Fr (fun _ => False) w w' := by
  obtain ⟨a1, b1, e1, -⟩ := id h1
  obtain ⟨a3, b3, e3, -⟩ := id h3
  have hF : Fr (fun _ => False) w ((w.alloc (.cells #[vI f.P, vI f.R, vI f.V, x1] 46)).alloc (.cells #[vI f.P, vI f.R, vI f.V, x2] 46)) := Fr.alloc (Fr.alloc (Fr.refl _ w) _) _
  have HB1 : Hd (((w.alloc (.cells #[vI f.P, vI f.R, vI f.V, x1] 46)).alloc (.cells #[vI f.P, vI f.R, vI f.V, x2] 46)).heap[w.heap.size]? = some (.cells #[vI f.P, vI f.R, vI f.V, x1] 46)) := by
    unfold Hd; rw [Go.RowKit.Below.heap_alloc _ _ _ (by simp)]; exact heap_new w _
  have HB2 : Hd (((w.alloc (.cells #[vI f.P, vI f.R, vI f.V, x1] 46)).alloc (.cells #[vI f.P, vI f.R, vI f.V, x2] 46)).heap[w.heap.size + 1]? = some (.cells #[vI f.P, vI f.R, vI f.V, x2] 46)) := by
    unfold Hd; rw [show w.heap.size + 1 = (w.alloc (.cells #[vI f.P, vI f.R, vI f.V, x1] 46)).heap.size by simp]; exact heap_new _ _
  have H1 := h1.stay hF
  have H3 := h3.stay hF
  have G1 : Hd _ := H1
  have G3 : Hd _ := H3
  have HF : Hd _ := hF
  clear h1 h3 H1 H3 hF
  subst e1; subst e3
  have q0 : (f.P == f.P) = true := by simp
  have q1 : (f.R == f.R) = true := by simp
  have q2 : (f.V == f.V) = true := by simp
  go_enter Tryz.func45, Tryz.ntmps45
  go_upto_region 1 with fail
  generalize (w.alloc (.cells #[vI f.P, vI f.R, vI f.V, .slice a1 f.code.length b1] 46)).alloc (.cells #[vI f.P, vI f.R, vI f.V, .slice a3 f.code.length b3] 46) = wa at *
  have c0 : wa.cell? ⟨w.heap.size, 0, none⟩ = some (vI f.P) := by rw [cell_of HB1.out]; rfl
  have c1 : wa.cell? ⟨w.heap.size, 1, none⟩ = some (vI f.R) := by rw [cell_of HB1.out]; rfl
  have c2 : wa.cell? ⟨w.heap.size, 2, none⟩ = some (vI f.V) := by rw [cell_of HB1.out]; rfl
  have c3 : wa.cell? ⟨w.heap.size, 3, none⟩ = some (.slice a1 f.code.length b1) := by rw [cell_of HB1.out]; rfl
  have d0 : wa.cell? ⟨w.heap.size + 1, 0, none⟩ = some (vI f.P) := by rw [cell_of HB2.out]; rfl
  have d1 : wa.cell? ⟨w.heap.size + 1, 1, none⟩ = some (vI f.R) := by rw [cell_of HB2.out]; rfl
  have d2 : wa.cell? ⟨w.heap.size + 1, 2, none⟩ = some (vI f.V) := by rw [cell_of HB2.out]; rfl
  have d3 : wa.cell? ⟨w.heap.size + 1, 3, none⟩ = some (.slice a3 f.code.length b3) := by rw [cell_of HB2.out]; rfl
  go_wp2_with fail
  refine (show Calls Tryz.prog 69 #[.slice a1 f.code.length b1, .slice a3 f.code.length b3] wa _ from eqCode_same _ _ f.code wa G1.out G3.out hn).mono ?_
  rintro e w1 ⟨rfl, hF1⟩
  have HF1 : Hd (Fr (fun _ => False) w w1) := HF.out.trans hF1
  clear hF1 c0 c1 c2 c3 d0 d1 d2 d3 HB1 HB2
  go_wp2_with fail
  go_ret
  exact ⟨rfl, HF1.out⟩
theorem eqFuncs_same (v1 v2 : Value) (fs : List PF) (w : World) (h1 : FA w v1 fs) (h2 : FA w v2 fs) (hn : FineP fs) :
    Calls Tryz.prog 25 #[v1, v2] w fun e w' => e = .returned (.bool true) ∧ Fr (fun _ => False) w w' := by
  obtain ⟨a1, c1, rfl, hc1⟩ := h1
  obtain ⟨a2, c2, rfl, hc2⟩ := h2
  have H1 : Hd _ := hc1
  have H2 : Hd _ := hc2
  have HFI : Hd (FineP fs) := hn
  have hz := hn.1
  clear hc1 hc2 hn
  go_enter Tryz.func25, Tryz.ntmps25
  go_wp2_with fail
  go_loopw [5] (fun v wr => ∃ (k : Nat), v = .int .i64 k ∧ k ≤ fs.length ∧ Hd (Fr (fun _ => False) w wr)) (fun v _ => match v with | .int _ q => fs.length - q.toNat | _ => 0)
  case atStart => exact ⟨0, rfl, Nat.zero_le _, Fr.refl _ _⟩
  case round =>
    obtain ⟨k, rfl, hk, HF⟩ := hrel
    by_cases hlt : k < fs.length
    · have hne : fs ≠ [] := by intro e; simp [e] at hlt
      obtain ⟨k1, o1, rfl, hk1, g1⟩ := H1.out hne
      obtain ⟨k2, o2, rfl, hk2, g2⟩ := H2.out hne
      obtain ⟨x1, p0, p1, p2, p3, ix1⟩ := g1 k hlt
      obtain ⟨x2, q0, q1, q2, q3, ix2⟩ := g2 k hlt
      have m1 := fun o => HF.out.cell (o := o) hk1 (fun h => h)
      have m2 := fun o => HF.out.cell (o := o) hk2 (fun h => h)
      have p0 := (m1 _).trans p0
      have p1 := (m1 _).trans p1
      have p2 := (m1 _).trans p2
      have p3 := (m1 _).trans p3
      have q0 := (m2 _).trans q0
      have q1 := (m2 _).trans q1
      have q2 := (m2 _).trans q2
      have q3 := (m2 _).trans q3
      have X1 : Hd (CA wr x1 fs[k].code) := ix1.stay HF.out
      have X2 : Hd (CA wr x2 fs[k].code) := ix2.stay HF.out
      have HC : Hd (FineC fs[k].code) := HFI.out.2 _ (List.getElem_mem hlt)
      generalize fs[k] = f at *
      obtain ⟨a, b, e1, -⟩ := ix1
      obtain ⟨a'', b'', e3, -⟩ := ix2
      subst e1; subst e3
      have hk0 : (0 : Int) ≤ k := by omega
      have hk3 : (k : Int) < fs.length := by omega
      clear g1 g2 m1 m2
      go_wp2_with fail
      refine wp_region_still_tail 8 mixed (by kernel_rfl) ?_
      simp only [List.take_succ_cons, List.take_zero, List.drop_succ_cons, List.drop_zero]
      repeat still_step
      refine wpStill_nil ?_
      go_wp2_with fail
      refine (show Calls Tryz.prog 45 #[.agg #[vI f.P, vI f.R, vI f.V, .slice a f.code.length b], .agg #[vI f.P, vI f.R, vI f.V, .slice a'' f.code.length b'']] wr.drew _ from eqFunc_same f _ _ wr.drew X1.out X2.out HC.out).mono ?_
      rintro e w1 ⟨rfl, hF1⟩
      have HF1 : Hd (Fr (fun _ => False) w w1) := HF.out.drew.trans hF1
      clear hF1 p0 p1 p2 p3 q0 q1 q2 q3
      go_wp2_with fail
      exact ⟨⟨k + 1, by simp, by omega, HF1.out⟩, by simp; omega⟩
    · have hke : k = fs.length := by omega
      subst hke
      go_wp2_with fail
      go_ret
      exact ⟨rfl, HF.out⟩
theorem eqProgram_same (G : Int) (fs : List PF) (x1 x2 : Value) (w : World) (h1 : FA w x1 fs) (h3 : FA w x2 fs) (hn : FineP fs) :
    Calls Tryz.prog 10 #[.agg #[vI G, x1], .agg #[vI G, x2]] w fun e w' => e = .returned (.bool true) ∧ Fr (fun _ => False) w w' := by
  obtain ⟨a1, b1, e1, -⟩ := id h1
  obtain ⟨a3, b3, e3, -⟩ := id h3
  have hF : Fr (fun _ => False) w ((w.alloc (.cells #[vI G, x1] 24)).alloc (.cells #[vI G, x2] 24)) := Fr.alloc (Fr.alloc (Fr.refl _ w) _) _
  have HB1 : Hd (((w.alloc (.cells #[vI G, x1] 24)).alloc (.cells #[vI G, x2] 24)).heap[w.heap.size]? = some (.cells #[vI G, x1] 24)) := by
    unfold Hd; rw [Go.RowKit.Below.heap_alloc _ _ _ (by simp)]; exact heap_new w _
  have HB2 : Hd (((w.alloc (.cells #[vI G, x1] 24)).alloc (.cells #[vI G, x2] 24)).heap[w.heap.size + 1]? = some (.cells #[vI G, x2] 24)) := by
    unfold Hd; rw [show w.heap.size + 1 = (w.alloc (.cells #[vI G, x1] 24)).heap.size by simp]; exact heap_new _ _
  have H1 := h1.stay hF
  have H3 := h3.stay hF
  have G1 : Hd _ := H1
  have G3 : Hd _ := H3
  have HF : Hd _ := hF
  clear h1 h3 H1 H3 hF
  subst e1; subst e3
  have q0 : (G == G) = true := by simp
  go_enter Tryz.func10, Tryz.ntmps10
  go_upto_region 1 with fail
  generalize (w.alloc (.cells #[vI G, .slice a1 fs.length b1] 24)).alloc (.cells #[vI G, .slice a3 fs.length b3] 24) = wa at *
  have c0 : wa.cell? ⟨w.heap.size, 0, none⟩ = some (vI G) := by rw [cell_of HB1.out]; rfl
  have c1 : wa.cell? ⟨w.heap.size, 1, none⟩ = some (.slice a1 fs.length b1) := by rw [cell_of HB1.out]; rfl
  have d0 : wa.cell? ⟨w.heap.size + 1, 0, none⟩ = some (vI G) := by rw [cell_of HB2.out]; rfl
  have d1 : wa.cell? ⟨w.heap.size + 1, 1, none⟩ = some (.slice a3 fs.length b3) := by rw [cell_of HB2.out]; rfl
  go_wp2_with fail
  refine (show Calls Tryz.prog 25 #[.slice a1 fs.length b1, .slice a3 fs.length b3] wa _ from eqFuncs_same _ _ fs wa G1.out G3.out hn).mono ?_
  rintro e w1 ⟨rfl, hF1⟩
  have HF1 : Hd (Fr (fun _ => False) w w1) := HF.out.trans hF1
  clear hF1 c0 c1 d0 d1 HB1 HB2
  go_wp2_with fail
  go_ret
  exact ⟨rfl, HF1.out⟩
theorem flat_get {α : Type} (row : α → List Value) (sz : Nat) (hr : ∀ x, (row x).length = sz) : ∀ (L : List α) (i o : Nat) (h : i < L.length), o < sz → (L.flatMap row)[i * sz + o]? = (row L[i])[o]?
  | [], i, o, h, _ => absurd h (by simp)
  | x :: L, 0, o, _, ho => by
    rw [Nat.zero_mul, Nat.zero_add, List.flatMap_cons, List.getElem?_append_left (by rw [hr]; exact ho)]
    rfl
  | x :: L, i + 1, o, h, ho => by
    rw [List.flatMap_cons, List.getElem?_append_right (by rw [hr, Nat.add_mul]; omega), hr, show (i + 1) * sz + o - sz = i * sz + o by rw [Nat.add_mul]; omega]
    exact flat_get row sz hr L i o (by simpa using h) ho
theorem own_cell {w : World} {B e sz n : Nat} {v : Value} {xs : List Value} (h : w.ownsRow B e sz v n xs) {j : Nat} {u : Value} (hj : xs[j]? = some u) : ∃ g cap, v = .slice (some ⟨g, 0, none⟩) n cap ∧ g < w.heap.size ∧ w.cell? ⟨g, j, none⟩ = some u := by
  obtain ⟨h0, h1⟩ := h
  have hjl := (List.getElem?_eq_some_iff.1 hj).1
  rcases h1 with ⟨-, e2⟩ | ⟨g, cap, cur, rfl, k1, k2, k3, k4, k5, k6⟩
  · subst e2; simp at h0; subst h0; simp at hjl
  · refine ⟨g, cap, rfl, heap_lt k2, ?_⟩
    rw [cell_of k2, ← Array.getElem?_toList]
    rw [← k6] at hj
    rw [List.getElem?_take_of_lt (by omega)] at hj
    exact hj
theorem own_apart {w : World} {B B' e e' sz sz' n m : Nat} {v u : Value} {xs ys : List Value} (h : w.ownsRow B e sz v n xs) (k : w.ownsRow B' e' sz' u m ys) (he : e ≠ e') : ∀ j, u.ownBlock = some j → v.ownBlock ≠ some j := by
  intro j hu hv
  rcases h.2 with ⟨rfl, -⟩ | ⟨g, cap, cur, rfl, -, h2, -⟩
  · cases hv
  · rcases k.2 with ⟨rfl, -⟩ | ⟨g', cap', cur', rfl, -, k2, -⟩
    · cases hu
    · cases hv
      cases hu
      rw [h2] at k2
      cases k2
      exact he rfl
abbrev CI := PI × Value × Value
abbrev rowI (x : CI) : List Value := iR x.1 x.2
structure CO (w : World) (B : Nat) (v : Value) (L : List CI) : Prop where
  row : w.ownsRow B 48 7 v L.length (L.flatMap rowI)
  ints : ∀ x ∈ L, IOwn w B x.2.1 x.1.args ∧ IOwn w B x.2.2 x.1.rets
theorem CO.ca {w : World} {B : Nat} {v : Value} {L : List CI} (h : CO w B v L) : CA w v (L.map (·.1)) := by
  rcases h.row.2 with ⟨h2, h3⟩ | ⟨g, cap, cur, e, -⟩
  · refine ⟨none, 0, by rw [h2, List.length_map, h3], fun hne => ?_⟩
    exact absurd (by rw [List.eq_nil_of_length_eq_zero h3]; rfl) hne
  · refine ⟨some ⟨g, 0, none⟩, cap, by rw [e, List.length_map], fun _ => ⟨g, 0, rfl, (World.ownsRow.lt h.row g (by rw [e]; rfl)).2, fun j hj => ?_⟩⟩
    have hj' : j < L.length := by simpa using hj
    have pc : ∀ o u, o < 7 → (rowI L[j])[o]? = some u → w.cell? ⟨g, j * 7 + o, none⟩ = some u := fun o u ho hu => by
      obtain ⟨g', cap', e', -, hc⟩ := own_cell h.row (j := j * 7 + o) (u := u) (by rw [flat_get rowI 7 (fun _ => rfl) L j o hj' ho]; exact hu)
      rw [e] at e'
      cases e'
      exact hc
    have hi := h.ints L[j] (List.getElem_mem hj')
    rw [Nat.zero_add]
    simp only [List.getElem_map]
    exact ⟨L[j].2.1, L[j].2.2, pc 0 _ (by omega) rfl, pc 1 _ (by omega) rfl, pc 2 _ (by omega) rfl, pc 3 _ (by omega) rfl, pc 4 _ (by omega) rfl, pc 5 _ (by omega) rfl, pc 6 _ (by omega) rfl, hi.1.ia, hi.2.ia⟩
theorem CO.fr {S : Nat → Prop} {w w' : World} {B : Nat} {v : Value} {L : List CI} (h : CO w B v L) (f : Fr S w w') (h1 : ∀ k, v.ownBlock = some k → ¬ S k) (h2 : ∀ x ∈ L, ∀ k, (x.2.1.ownBlock = some k ∨ x.2.2.ownBlock = some k) → ¬ S k) : CO w' B v L :=
  ⟨ownsRow_frL h.row f h1, fun x hx => ⟨(h.ints x hx).1.fr f (fun k e => h2 x hx k (Or.inl e)), (h.ints x hx).2.fr f (fun k e => h2 x hx k (Or.inr e))⟩⟩
theorem CO.stay {w w' : World} {B : Nat} {v : Value} {L : List CI} (h : CO w B v L) (f : Fr (fun _ => False) w w') : CO w' B v L := h.fr f (fun _ _ e => e) (fun _ _ _ _ e => e)
theorem CO.mono {w : World} {B B' : Nat} {v : Value} {L : List CI} (h : CO w B v L) (hB : B' ≤ B) : CO w B' v L := ⟨World.ownsRow.mono h.row hB, fun x hx => ⟨(h.ints x hx).1.mono hB, (h.ints x hx).2.mono hB⟩⟩
theorem copyInstr_any (c : PI) (x y : Value) (w : World) (h1 : IA w x c.args) (h2 : IA w y c.rets) (hla : c.args.length ≤ 17592186043904) (hlr : c.rets.length ≤ 17592186043904) :
    Calls Tryz.prog 84 #[.agg #[vI c.op, vI c.r, vI c.s, vI c.t, vI c.n, x, y]] w fun e w' => ∃ x' y', e = .returned (.agg #[vI c.op, vI c.r, vI c.s, vI c.t, vI c.n, x', y']) ∧ IOwn w' w.heap.size x' c.args ∧ IOwn w' w.heap.size y' c.rets ∧ Fr (fun _ => False) w w' := by
  obtain ⟨a1, b1, e1, -⟩ := id h1
  obtain ⟨a2, b2, e2, -⟩ := id h2
  obtain ⟨wa, hwa⟩ : ∃ wa, wa = (w.alloc (.cells #[vI c.op, vI c.r, vI c.s, vI c.t, vI c.n, x, y] 48)).alloc (.cells #[vI 0, vI 0, vI 0, vI 0, vI 0, .slice none 0 0, .slice none 0 0] 48) := ⟨_, rfl⟩
  have hF : Fr (fun _ => False) w wa := by rw [hwa]; exact Fr.alloc (Fr.alloc (Fr.refl _ w) _) _
  have hsz : wa.heap.size = w.heap.size + 2 := by rw [hwa]; simp
  have b1' : wa.heap[w.heap.size]? = some (.cells #[vI c.op, vI c.r, vI c.s, vI c.t, vI c.n, x, y] 48) := by
    rw [hwa, Go.RowKit.Below.heap_alloc _ _ _ (by simp)]; exact heap_new w _
  have b2' : wa.heap[w.heap.size + 1]? = some (.cells #[vI 0, vI 0, vI 0, vI 0, vI 0, .slice none 0 0, .slice none 0 0] 48) := by
    rw [hwa, show w.heap.size + 1 = (w.alloc (.cells #[vI c.op, vI c.r, vI c.s, vI c.t, vI c.n, x, y] 48)).heap.size by simp]; exact heap_new _ _
  have HWA : Hd (wa = (w.alloc (.cells #[vI c.op, vI c.r, vI c.s, vI c.t, vI c.n, x, y] 48)).alloc (.cells #[vI 0, vI 0, vI 0, vI 0, vI 0, .slice none 0 0, .slice none 0 0] 48)) := hwa
  have G1 : Hd (IA wa x c.args) := h1.stay hF
  have G2 : Hd (IA w y c.rets) := h2
  have HF : Hd (Fr (fun _ => False) w wa) := hF
  obtain ⟨H, hH⟩ : ∃ H, H = w.heap.size := ⟨_, rfl⟩
  have HH : Hd (H = w.heap.size) := hH
  have HSZ : Hd (wa.heap.size = H + 2) := by rw [hH]; exact hsz
  rw [← hH] at b1' b2'
  have B1 : Hd _ := b1'
  have B2 : Hd _ := b2'
  have p5 : wa.cell? ⟨H, 5, none⟩ = some x := by rw [cell_of b1']; rfl
  subst e1; subst e2
  clear h1 h2 hF hsz hwa hH b1' b2'
  go_enter Tryz.func84, Tryz.ntmps84
  go_upto_region 1 with fail
  rw [← HWA.out, ← HH.out]
  clear HWA
  go_wp2_with fail
  refine (show Calls Tryz.prog 49 #[.slice a1 c.args.length b1] wa _ from copyInts_any _ c.args wa G1.out hla).mono ?_
  rintro e w2 ⟨x', rfl, hx', hF2⟩
  have hxs : ∀ k, x'.ownBlock = some k → H + 2 ≤ k := fun k e => by have := (hx'.ge k e).1; have := HSZ.out; omega
  have B1' : w2.heap[H]? = some (.cells #[vI c.op, vI c.r, vI c.s, vI c.t, vI c.n, .slice a1 c.args.length b1, .slice a2 c.rets.length b2] 48) := (hF2.block H (heap_lt B1.out) (fun e => e)).trans B1.out
  have B2' : w2.heap[H + 1]? = some (.cells #[vI 0, vI 0, vI 0, vI 0, vI 0, .slice none 0 0, .slice none 0 0] 48) := (hF2.block (H + 1) (heap_lt B2.out) (fun e => e)).trans B2.out
  obtain ⟨xa, xc, exa⟩ : ∃ xa xc, x' = .slice xa c.args.length xc := by obtain ⟨xa, xc, e, -⟩ := hx'.ia; exact ⟨xa, xc, e⟩
  have q5 : w2.cell? ⟨H, 5, none⟩ = some (.slice a1 c.args.length b1) := by rw [cell_of B1']; rfl
  have z5 := frozen_of B1' 5
  have fs2 := setCell_fr w2 H 5 x'
  have C1 : Hd ((w2.setCell ⟨H, 5, none⟩ x').heap[H]? = some (.cells #[vI c.op, vI c.r, vI c.s, vI c.t, vI c.n, x', .slice a2 c.rets.length b2] 48)) := set_of B1' 5 x'
  have C2 : Hd ((w2.setCell ⟨H, 5, none⟩ x').heap[H + 1]? = some (.cells #[vI 0, vI 0, vI 0, vI 0, vI 0, .slice none 0 0, .slice none 0 0] 48)) := (fs2.block (H + 1) (heap_lt B2') (by omega)).trans B2'
  have HX : Hd (IOwn (w2.setCell ⟨H, 5, none⟩ x') (H + 2) x' c.args) := (hx'.mono (by rw [HSZ.out]; exact Nat.le_refl _)).fr fs2 (fun k e e2 => by have := hxs k e; omega)
  have HF2 : Hd (Fr (fun _ => False) w (w2.setCell ⟨H, 5, none⟩ x')) := (HF.out.trans hF2).then fs2 (fun j hj e => by have := HH.out; omega)
  have HZ2 : Hd (H + 2 ≤ (w2.setCell ⟨H, 5, none⟩ x').heap.size) := by have := hF2.size; have := HSZ.out; have := fs2.size; unfold Hd; omega
  have G2' : Hd (IA (w2.setCell ⟨H, 5, none⟩ x') (.slice a2 c.rets.length b2) c.rets) := IA.stay G2.out HF2.out
  subst exa
  clear hx' hF2 hxs fs2 B1' B2' p5 B1 B2 G1 G2 HF HSZ
  go_upto_region 2 with fail
  clear q5 z5
  generalize w2.setCell ⟨H, 5, none⟩ (.slice xa c.args.length xc) = w3 at *
  have q6 : w3.cell? ⟨H, 6, none⟩ = some (.slice a2 c.rets.length b2) := by rw [cell_of C1.out]; rfl
  go_wp2_with fail
  refine (show Calls Tryz.prog 49 #[.slice a2 c.rets.length b2] w3 _ from copyInts_any _ c.rets w3 G2'.out hlr).mono ?_
  rintro e w4 ⟨y', rfl, hy', hF4⟩
  have hys : ∀ k, y'.ownBlock = some k → H + 2 ≤ k := fun k e => by have := (hy'.ge k e).1; have := HZ2.out; omega
  have B1' : w4.heap[H]? = some (.cells #[vI c.op, vI c.r, vI c.s, vI c.t, vI c.n, .slice xa c.args.length xc, .slice a2 c.rets.length b2] 48) := (hF4.block H (heap_lt C1.out) (fun e => e)).trans C1.out
  have B2' : w4.heap[H + 1]? = some (.cells #[vI 0, vI 0, vI 0, vI 0, vI 0, .slice none 0 0, .slice none 0 0] 48) := (hF4.block (H + 1) (heap_lt C2.out) (fun e => e)).trans C2.out
  obtain ⟨ya, yc, eya⟩ : ∃ ya yc, y' = .slice ya c.rets.length yc := by obtain ⟨ya, yc, e, -⟩ := hy'.ia; exact ⟨ya, yc, e⟩
  have fs4 := setCell_fr w4 H 6 y'
  have D1 : (w4.setCell ⟨H, 6, none⟩ y').heap[H]? = some (.cells #[vI c.op, vI c.r, vI c.s, vI c.t, vI c.n, .slice xa c.args.length xc, y'] 48) := set_of B1' 6 y'
  have D2 : (w4.setCell ⟨H, 6, none⟩ y').heap[H + 1]? = some (.cells #[vI 0, vI 0, vI 0, vI 0, vI 0, .slice none 0 0, .slice none 0 0] 48) := (fs4.block (H + 1) (heap_lt B2') (by omega)).trans B2'
  have HX4 : IOwn (w4.setCell ⟨H, 6, none⟩ y') (H + 2) (.slice xa c.args.length xc) c.args := (HX.out.fr hF4 (fun _ _ e => e)).fr fs4 (fun k e e2 => by have := (HX.out.ge k e).1; omega)
  have HY4 : IOwn (w4.setCell ⟨H, 6, none⟩ y') (H + 2) y' c.rets := (hy'.mono HZ2.out).fr fs4 (fun k e e2 => by have := hys k e; omega)
  have HF4 : Fr (fun _ => False) w (w4.setCell ⟨H, 6, none⟩ y') := (HF2.out.trans hF4).then fs4 (fun j hj e => by have := HH.out; omega)
  have r6 : w4.cell? ⟨H, 6, none⟩ = some (.slice a2 c.rets.length b2) := by rw [cell_of B1']; rfl
  have z6 := frozen_of B1' 6
  subst eya
  have J1 : Hd _ := D1
  have J2 : Hd _ := D2
  have JX : Hd _ := HX4
  have JY : Hd _ := HY4
  have JF : Hd _ := HF4
  clear hy' hF4 hys fs4 B1' B2' D1 D2 HX4 HY4 HF4 C1 C2 HX HF2 HZ2 G2'
  go_upto_region 3 with fail
  clear q6 r6 z6
  generalize w4.setCell ⟨H, 6, none⟩ (.slice ya c.rets.length yc) = w5 at *
  have c0 : w5.cell? ⟨H, 0, none⟩ = some (vI c.op) := by rw [cell_of J1.out]; rfl
  have c1 : w5.cell? ⟨H, 1, none⟩ = some (vI c.r) := by rw [cell_of J1.out]; rfl
  have c2 : w5.cell? ⟨H, 2, none⟩ = some (vI c.s) := by rw [cell_of J1.out]; rfl
  have c3 : w5.cell? ⟨H, 3, none⟩ = some (vI c.t) := by rw [cell_of J1.out]; rfl
  have c4 : w5.cell? ⟨H, 4, none⟩ = some (vI c.n) := by rw [cell_of J1.out]; rfl
  have c5 : w5.cell? ⟨H, 5, none⟩ = some (.slice xa c.args.length xc) := by rw [cell_of J1.out]; rfl
  have c6 : w5.cell? ⟨H, 6, none⟩ = some (.slice ya c.rets.length yc) := by rw [cell_of J1.out]; rfl
  have d0 : w5.cell? ⟨H + 1, 0, none⟩ = some (vI 0) := by rw [cell_of J2.out]; rfl
  have d1 : w5.cell? ⟨H + 1, 1, none⟩ = some (vI 0) := by rw [cell_of J2.out]; rfl
  have d2 : w5.cell? ⟨H + 1, 2, none⟩ = some (vI 0) := by rw [cell_of J2.out]; rfl
  have d3 : w5.cell? ⟨H + 1, 3, none⟩ = some (vI 0) := by rw [cell_of J2.out]; rfl
  have d4 : w5.cell? ⟨H + 1, 4, none⟩ = some (vI 0) := by rw [cell_of J2.out]; rfl
  have d5 : w5.cell? ⟨H + 1, 5, none⟩ = some (.slice none 0 0) := by rw [cell_of J2.out]; rfl
  have d6 : w5.cell? ⟨H + 1, 6, none⟩ = some (.slice none 0 0) := by rw [cell_of J2.out]; rfl
  have y0 := frozen_of J2.out 0
  have y1 := frozen_of J2.out 1
  have y2 := frozen_of J2.out 2
  have y3 := frozen_of J2.out 3
  have y4 := frozen_of J2.out 4
  have y5 := frozen_of J2.out 5
  have y6 := frozen_of J2.out 6
  have HL : Hd ((sev7 w5 (H + 1) 0 (iR c (.slice xa c.args.length xc, .slice ya c.rets.length yc))).heap[H + 1]? = some (.cells #[vI c.op, vI c.r, vI c.s, vI c.t, vI c.n, .slice xa c.args.length xc, .slice ya c.rets.length yc] 48)) :=
    set_of (set_of (set_of (set_of (set_of (set_of (set_of J2.out 0 _) 1 _) 2 _) 3 _) 4 _) 5 _) 6 _
  have fs6 := sev7_fr w5 (H + 1) 0 (iR c (.slice xa c.args.length xc, .slice ya c.rets.length yc))
  have KX : Hd (IOwn (sev7 w5 (H + 1) 0 (iR c (.slice xa c.args.length xc, .slice ya c.rets.length yc))) w.heap.size (.slice xa c.args.length xc) c.args) := (IOwn.fr JX.out fs6 (fun k e e2 => by have := (IOwn.ge JX.out k e).1; omega)).mono (by have := HH.out; omega)
  have KY : Hd (IOwn (sev7 w5 (H + 1) 0 (iR c (.slice xa c.args.length xc, .slice ya c.rets.length yc))) w.heap.size (.slice ya c.rets.length yc) c.rets) := (IOwn.fr JY.out fs6 (fun k e e2 => by have := (IOwn.ge JY.out k e).1; omega)).mono (by have := HH.out; omega)
  have KF : Hd (Fr (fun _ => False) w (sev7 w5 (H + 1) 0 (iR c (.slice xa c.args.length xc, .slice ya c.rets.length yc)))) := Fr.then JF.out fs6 (fun j hj e => by have := HH.out; omega)
  clear fs6
  go_wp2_with fail
  change bodyPost _ _ _ _ _ (sev7 w5 (H + 1) 0 (iR c (.slice xa c.args.length xc, .slice ya c.rets.length yc)))
  generalize sev7 w5 (H + 1) 0 (iR c (.slice xa c.args.length xc, .slice ya c.rets.length yc)) = wz at *
  have e0 : wz.cell? ⟨H + 1, 0, none⟩ = some (vI c.op) := by rw [cell_of HL.out]; rfl
  have e1 : wz.cell? ⟨H + 1, 1, none⟩ = some (vI c.r) := by rw [cell_of HL.out]; rfl
  have e2 : wz.cell? ⟨H + 1, 2, none⟩ = some (vI c.s) := by rw [cell_of HL.out]; rfl
  have e3 : wz.cell? ⟨H + 1, 3, none⟩ = some (vI c.t) := by rw [cell_of HL.out]; rfl
  have e4 : wz.cell? ⟨H + 1, 4, none⟩ = some (vI c.n) := by rw [cell_of HL.out]; rfl
  have e5 : wz.cell? ⟨H + 1, 5, none⟩ = some (.slice xa c.args.length xc) := by rw [cell_of HL.out]; rfl
  have e6 : wz.cell? ⟨H + 1, 6, none⟩ = some (.slice ya c.rets.length yc) := by rw [cell_of HL.out]; rfl
  refine bodyPost_ret (v := .agg #[vI c.op, vI c.r, vI c.s, vI c.t, vI c.n, .slice xa c.args.length xc, .slice ya c.rets.length yc]) ?_ rfl ⟨_, _, rfl, KX.out, KY.out, KF.out⟩
  rw [results_cell (p := 2) (ty := 48) Tryz.results84]
  simp [go_sem, e0, e1, e2, e3, e4, e5, e6]
end Go.Proofs.YtlmlmhinbkcpoaaGreatDoor
