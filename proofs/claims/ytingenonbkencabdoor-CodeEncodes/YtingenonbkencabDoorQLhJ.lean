import Derived.Test.YtingenonbkencabDoorQRtJ
set_option linter.unusedVariables false
set_option linter.unusedSimpArgs false
namespace Go.Proofs.YtingenonbkencabDoor
open Go.RowKit (wrap32 wrap64)
set_option maxRecDepth 100000
set_option maxHeartbeats 2000000
theorem eqInstr_same (c : PI) (x1 y1 x2 y2 : Value) (w : World) (h1 : IA w x1 c.args) (h2 : IA w y1 c.rets) (h3 : IA w x2 c.args) (h4 : IA w y2 c.rets) (hla : c.args.length ≤ 17592186043904) (hlr : c.rets.length ≤ 17592186043904) :
 Calls Tryd.prog 78 #[.agg #[vI c.op, vI c.r, vI c.s, vI c.t, vI c.n, x1, y1], .agg #[vI c.op, vI c.r, vI c.s, vI c.t, vI c.n, x2, y2]] w fun e w' => e = .returned (.bool true) ∧ Fr (fun _ => False) w w' := by
 obtain ⟨a1, b1, e1, -⟩ := id h1
 obtain ⟨a2, b2, e2, -⟩ := id h2
 obtain ⟨a3, b3, e3, -⟩ := id h3
 obtain ⟨a4, b4, e4, -⟩ := id h4
 have hF : Fr (fun _ => False) w ((w.alloc (.cells #[vI c.op, vI c.r, vI c.s, vI c.t, vI c.n, x1, y1] 57)).alloc (.cells #[vI c.op, vI c.r, vI c.s, vI c.t, vI c.n, x2, y2] 57)) := Fr.alloc (Fr.alloc (Fr.refl _ w) _) _
 have HB1 : Hd (((w.alloc (.cells #[vI c.op, vI c.r, vI c.s, vI c.t, vI c.n, x1, y1] 57)).alloc (.cells #[vI c.op, vI c.r, vI c.s, vI c.t, vI c.n, x2, y2] 57)).heap[w.heap.size]? = some (.cells #[vI c.op, vI c.r, vI c.s, vI c.t, vI c.n, x1, y1] 57)) := by
  unfold Hd; rw [Go.RowKit.Below.heap_alloc _ _ _ (by simp)]; exact heap_new w _
 have HB2 : Hd (((w.alloc (.cells #[vI c.op, vI c.r, vI c.s, vI c.t, vI c.n, x1, y1] 57)).alloc (.cells #[vI c.op, vI c.r, vI c.s, vI c.t, vI c.n, x2, y2] 57)).heap[w.heap.size + 1]? = some (.cells #[vI c.op, vI c.r, vI c.s, vI c.t, vI c.n, x2, y2] 57)) := by
  unfold Hd; rw [show w.heap.size + 1 = (w.alloc (.cells #[vI c.op, vI c.r, vI c.s, vI c.t, vI c.n, x1, y1] 57)).heap.size by simp]; exact heap_new _ _
 have H1 := h1.stay hF
 have H2 := h2.stay hF
 have H3 := h3.stay hF
 have H4 := h4.stay hF
 have G1 : Hd _ := H1
 have G2 : Hd _ := H2
 have G3 : Hd _ := H3
 have G4 : Hd _ := H4
 have HF : Hd _ := hF
 clear h1 h2 h3 h4 H1 H2 H3 H4 hF
 subst e1; subst e2; subst e3; subst e4
 have q0 : (c.op == c.op) = true := by simp
 have q1 : (c.r == c.r) = true := by simp
 have q2 : (c.s == c.s) = true := by simp
 have q3 : (c.t == c.t) = true := by simp
 have q4 : (c.n == c.n) = true := by simp
 go_enter Tryd.func78, Tryd.ntmps78
 go_upto_region 1 with fail
 generalize (w.alloc (.cells #[vI c.op, vI c.r, vI c.s, vI c.t, vI c.n, .slice a1 c.args.length b1, .slice a2 c.rets.length b2] 57)).alloc (.cells #[vI c.op, vI c.r, vI c.s, vI c.t, vI c.n, .slice a3 c.args.length b3, .slice a4 c.rets.length b4] 57) = wa at *
 have c0 : wa.cell? ⟨w.heap.size, 0, none⟩ = some (vI c.op) := by rw [cell_of HB1.out]; rfl
 have c1 : wa.cell? ⟨w.heap.size, 1, none⟩ = some (vI c.r) := by rw [cell_of HB1.out]; rfl
 have c2 : wa.cell? ⟨w.heap.size, 2, none⟩ = some (vI c.s) := by rw [cell_of HB1.out]; rfl
 have c3 : wa.cell? ⟨w.heap.size, 3, none⟩ = some (vI c.t) := by rw [cell_of HB1.out]; rfl
 have c4 : wa.cell? ⟨w.heap.size, 4, none⟩ = some (vI c.n) := by rw [cell_of HB1.out]; rfl
 have c5 : wa.cell? ⟨w.heap.size, 5, none⟩ = some (.slice a1 c.args.length b1) := by rw [cell_of HB1.out]; rfl
 have d0 : wa.cell? ⟨w.heap.size + 1, 0, none⟩ = some (vI c.op) := by rw [cell_of HB2.out]; rfl
 have d1 : wa.cell? ⟨w.heap.size + 1, 1, none⟩ = some (vI c.r) := by rw [cell_of HB2.out]; rfl
 have d2 : wa.cell? ⟨w.heap.size + 1, 2, none⟩ = some (vI c.s) := by rw [cell_of HB2.out]; rfl
 have d3 : wa.cell? ⟨w.heap.size + 1, 3, none⟩ = some (vI c.t) := by rw [cell_of HB2.out]; rfl
 have d4 : wa.cell? ⟨w.heap.size + 1, 4, none⟩ = some (vI c.n) := by rw [cell_of HB2.out]; rfl
 have d5 : wa.cell? ⟨w.heap.size + 1, 5, none⟩ = some (.slice a3 c.args.length b3) := by rw [cell_of HB2.out]; rfl
 go_wp2_with fail
 refine (show Calls Tryd.prog 81 #[.slice a1 c.args.length b1, .slice a3 c.args.length b3] wa _ from eqInts_same _ _ c.args wa G1.out G3.out hla).mono ?_
 rintro e w1 ⟨rfl, hF1⟩
 have G2' : Hd (IA w1 (.slice a2 c.rets.length b2) c.rets) := IA.stay G2.out hF1
 have G4' : Hd (IA w1 (.slice a4 c.rets.length b4) c.rets) := IA.stay G4.out hF1
 have p6 : w1.cell? ⟨w.heap.size, 6, none⟩ = some (.slice a2 c.rets.length b2) := by rw [hF1.cell (heap_lt HB1.out) (fun e => e), cell_of HB1.out]; rfl
 have r6 : w1.cell? ⟨w.heap.size + 1, 6, none⟩ = some (.slice a4 c.rets.length b4) := by rw [hF1.cell (heap_lt HB2.out) (fun e => e), cell_of HB2.out]; rfl
 have HF1 : Hd (Fr (fun _ => False) w w1) := HF.out.trans hF1
 clear hF1 c0 c1 c2 c3 c4 c5 d0 d1 d2 d3 d4 d5 HB1 HB2
 go_wp2_with fail
 refine (show Calls Tryd.prog 81 #[.slice a2 c.rets.length b2, .slice a4 c.rets.length b4] w1 _ from eqInts_same _ _ c.rets w1 G2'.out G4'.out hlr).mono ?_
 rintro e w2 ⟨rfl, hF2⟩
 have HF2 : Hd (Fr (fun _ => False) w w2) := HF1.out.trans hF2
 clear hF2
 go_wp2_with fail
 go_ret
 exact ⟨rfl, HF2.out⟩
theorem eqCode_same (v1 v2 : Value) (cs : List PI) (w : World) (h1 : CA w v1 cs) (h2 : CA w v2 cs) (hn : FineC cs) :
 Calls Tryd.prog 72 #[v1, v2] w fun e w' => e = .returned (.bool true) ∧ Fr (fun _ => False) w w' := by
 obtain ⟨a1, c1, rfl, hc1⟩ := h1
 obtain ⟨a2, c2, rfl, hc2⟩ := h2
 have H1 : Hd _ := hc1
 have H2 : Hd _ := hc2
 have HFI : Hd (FineC cs) := hn
 have hz := hn.1
 clear hc1 hc2 hn
 go_enter Tryd.func72, Tryd.ntmps72
 go_wp2_with fail
 go_loopw [5] (fun v wr => ∃ (k : Nat), v = .int .i64 k ∧ k ≤ cs.length ∧ Hd (Fr (fun _ => False) w wr)) (fun v _ => match v with | .int _ q => cs.length - q.toNat | _ => 0)
 case atStart => exact ⟨0, rfl, Nat.zero_le _, Fr.refl _ _⟩
 case round =>
  obtain ⟨k, rfl, hk, HF⟩ := hrel
  by_cases hlt : k < cs.length
  ·have hne : cs ≠ [] := by intro e; simp [e] at hlt
   obtain ⟨k1, o1, rfl, hk1, g1⟩ := H1.out hne
   obtain ⟨k2, o2, rfl, hk2, g2⟩ := H2.out hne
   obtain ⟨x1, y1, p0, p1, p2, p3, p4, p5, p6, ix1, iy1⟩ := g1 k hlt
   obtain ⟨x2, y2, q0, q1, q2, q3, q4, q5, q6, ix2, iy2⟩ := g2 k hlt
   have m1 := fun o => HF.out.cell (o := o) hk1 (fun h => h)
   have m2 := fun o => HF.out.cell (o := o) hk2 (fun h => h)
   have p0 := (m1 _).trans p0
   have p1 := (m1 _).trans p1
   have p2 := (m1 _).trans p2
   have p3 := (m1 _).trans p3
   have p4 := (m1 _).trans p4
   have p5 := (m1 _).trans p5
   have p6 := (m1 _).trans p6
   have q0 := (m2 _).trans q0
   have q1 := (m2 _).trans q1
   have q2 := (m2 _).trans q2
   have q3 := (m2 _).trans q3
   have q4 := (m2 _).trans q4
   have q5 := (m2 _).trans q5
   have q6 := (m2 _).trans q6
   have X1 : Hd (IA wr x1 cs[k].args) := ix1.stay HF.out
   have Y1 : Hd (IA wr y1 cs[k].rets) := iy1.stay HF.out
   have X2 : Hd (IA wr x2 cs[k].args) := ix2.stay HF.out
   have Y2 : Hd (IA wr y2 cs[k].rets) := iy2.stay HF.out
   have HC : Hd (cs[k].args.length ≤ 17592186043904 ∧ cs[k].rets.length ≤ 17592186043904) := HFI.out.2 _ (List.getElem_mem hlt)
   generalize cs[k] = c at *
   obtain ⟨a, b, e1, -⟩ := ix1
   obtain ⟨a', b', e2, -⟩ := iy1
   obtain ⟨a'', b'', e3, -⟩ := ix2
   obtain ⟨a3, b3, e4, -⟩ := iy2
   subst e1; subst e2; subst e3; subst e4
   have hk0 : (0 : Int) ≤ k := by omega
   have hk3 : (k : Int) < cs.length := by omega
   clear g1 g2 m1 m2
   go_wp2_with fail
   refine wp_region_still_tail 8 mixed (by kernel_rfl) ?_
   simp only [List.take_succ_cons, List.take_zero, List.drop_succ_cons, List.drop_zero]
   repeat still_step
   refine wpStill_nil ?_
   go_wp2_with fail
   refine (show Calls Tryd.prog 78 #[.agg #[vI c.op, vI c.r, vI c.s, vI c.t, vI c.n, .slice a c.args.length b, .slice a' c.rets.length b'], .agg #[vI c.op, vI c.r, vI c.s, vI c.t, vI c.n, .slice a'' c.args.length b'', .slice a3 c.rets.length b3]] wr.drew _ from eqInstr_same c _ _ _ _ wr.drew X1.out Y1.out X2.out Y2.out (by have := HC.out; omega) (by have := HC.out; omega)).mono ?_
   rintro e w1 ⟨rfl, hF1⟩
   have HF1 : Hd (Fr (fun _ => False) w w1) := HF.out.drew.trans hF1
   clear hF1 p0 p1 p2 p3 p4 p5 p6 q0 q1 q2 q3 q4 q5 q6
   go_wp2_with fail
   exact ⟨⟨k + 1, by simp, by omega, HF1.out⟩, by simp; omega⟩
  ·have hke : k = cs.length := by omega
   subst hke
   go_wp2_with fail
   go_ret
   exact ⟨rfl, HF.out⟩
theorem eqFunc_same (f : PF) (x1 x2 : Value) (w : World) (h1 : CA w x1 f.code) (h3 : CA w x2 f.code) (hn : FineC f.code) :
 Calls Tryd.prog 47 #[.agg #[vI f.P, vI f.R, vI f.V, x1], .agg #[vI f.P, vI f.R, vI f.V, x2]] w fun e w' => e = .returned (.bool true) ∧ Fr (fun _ => False) w w' := by
 obtain ⟨a1, b1, e1, -⟩ := id h1
 obtain ⟨a3, b3, e3, -⟩ := id h3
 have hF : Fr (fun _ => False) w ((w.alloc (.cells #[vI f.P, vI f.R, vI f.V, x1] 42)).alloc (.cells #[vI f.P, vI f.R, vI f.V, x2] 42)) := Fr.alloc (Fr.alloc (Fr.refl _ w) _) _
 have HB1 : Hd (((w.alloc (.cells #[vI f.P, vI f.R, vI f.V, x1] 42)).alloc (.cells #[vI f.P, vI f.R, vI f.V, x2] 42)).heap[w.heap.size]? = some (.cells #[vI f.P, vI f.R, vI f.V, x1] 42)) := by
  unfold Hd; rw [Go.RowKit.Below.heap_alloc _ _ _ (by simp)]; exact heap_new w _
 have HB2 : Hd (((w.alloc (.cells #[vI f.P, vI f.R, vI f.V, x1] 42)).alloc (.cells #[vI f.P, vI f.R, vI f.V, x2] 42)).heap[w.heap.size + 1]? = some (.cells #[vI f.P, vI f.R, vI f.V, x2] 42)) := by
  unfold Hd; rw [show w.heap.size + 1 = (w.alloc (.cells #[vI f.P, vI f.R, vI f.V, x1] 42)).heap.size by simp]; exact heap_new _ _
 have H1 := h1.stay hF
 have H3 := h3.stay hF
 have G1 : Hd _ := H1
 have G3 : Hd _ := H3
 have HF : Hd _ := hF
 clear h1 h3 H1 H3 hF
 subst e1; subst e3
 have q0 : (f.P == f.P) = true := by simp
 have q1 : (f.R == f.R) = true := by simp
 have q2 : (f.V == f.V) = true := by simp
 go_enter Tryd.func47, Tryd.ntmps47
 go_upto_region 1 with fail
 generalize (w.alloc (.cells #[vI f.P, vI f.R, vI f.V, .slice a1 f.code.length b1] 42)).alloc (.cells #[vI f.P, vI f.R, vI f.V, .slice a3 f.code.length b3] 42) = wa at *
 have c0 : wa.cell? ⟨w.heap.size, 0, none⟩ = some (vI f.P) := by rw [cell_of HB1.out]; rfl
 have c1 : wa.cell? ⟨w.heap.size, 1, none⟩ = some (vI f.R) := by rw [cell_of HB1.out]; rfl
 have c2 : wa.cell? ⟨w.heap.size, 2, none⟩ = some (vI f.V) := by rw [cell_of HB1.out]; rfl
 have c3 : wa.cell? ⟨w.heap.size, 3, none⟩ = some (.slice a1 f.code.length b1) := by rw [cell_of HB1.out]; rfl
 have d0 : wa.cell? ⟨w.heap.size + 1, 0, none⟩ = some (vI f.P) := by rw [cell_of HB2.out]; rfl
 have d1 : wa.cell? ⟨w.heap.size + 1, 1, none⟩ = some (vI f.R) := by rw [cell_of HB2.out]; rfl
 have d2 : wa.cell? ⟨w.heap.size + 1, 2, none⟩ = some (vI f.V) := by rw [cell_of HB2.out]; rfl
 have d3 : wa.cell? ⟨w.heap.size + 1, 3, none⟩ = some (.slice a3 f.code.length b3) := by rw [cell_of HB2.out]; rfl
 go_wp2_with fail
 refine (show Calls Tryd.prog 72 #[.slice a1 f.code.length b1, .slice a3 f.code.length b3] wa _ from eqCode_same _ _ f.code wa G1.out G3.out hn).mono ?_
 rintro e w1 ⟨rfl, hF1⟩
 have HF1 : Hd (Fr (fun _ => False) w w1) := HF.out.trans hF1
 clear hF1 c0 c1 c2 c3 d0 d1 d2 d3 HB1 HB2
 go_wp2_with fail
 go_ret
 exact ⟨rfl, HF1.out⟩
theorem eqFuncs_same (v1 v2 : Value) (fs : List PF) (w : World) (h1 : FA w v1 fs) (h2 : FA w v2 fs) (hn : FineP fs) :
 Calls Tryd.prog 26 #[v1, v2] w fun e w' => e = .returned (.bool true) ∧ Fr (fun _ => False) w w' := by
 obtain ⟨a1, c1, rfl, hc1⟩ := h1
 obtain ⟨a2, c2, rfl, hc2⟩ := h2
 have H1 : Hd _ := hc1
 have H2 : Hd _ := hc2
 have HFI : Hd (FineP fs) := hn
 have hz := hn.1
 clear hc1 hc2 hn
 go_enter Tryd.func26, Tryd.ntmps26
 go_wp2_with fail
 go_loopw [5] (fun v wr => ∃ (k : Nat), v = .int .i64 k ∧ k ≤ fs.length ∧ Hd (Fr (fun _ => False) w wr)) (fun v _ => match v with | .int _ q => fs.length - q.toNat | _ => 0)
 case atStart => exact ⟨0, rfl, Nat.zero_le _, Fr.refl _ _⟩
 case round =>
  obtain ⟨k, rfl, hk, HF⟩ := hrel
  by_cases hlt : k < fs.length
  ·have hne : fs ≠ [] := by intro e; simp [e] at hlt
   obtain ⟨k1, o1, rfl, hk1, g1⟩ := H1.out hne
   obtain ⟨k2, o2, rfl, hk2, g2⟩ := H2.out hne
   obtain ⟨x1, p0, p1, p2, p3, ix1⟩ := g1 k hlt
   obtain ⟨x2, q0, q1, q2, q3, ix2⟩ := g2 k hlt
   have m1 := fun o => HF.out.cell (o := o) hk1 (fun h => h)
   have m2 := fun o => HF.out.cell (o := o) hk2 (fun h => h)
   have p0 := (m1 _).trans p0
   have p1 := (m1 _).trans p1
   have p2 := (m1 _).trans p2
   have p3 := (m1 _).trans p3
   have q0 := (m2 _).trans q0
   have q1 := (m2 _).trans q1
   have q2 := (m2 _).trans q2
   have q3 := (m2 _).trans q3
   have X1 : Hd (CA wr x1 fs[k].code) := ix1.stay HF.out
   have X2 : Hd (CA wr x2 fs[k].code) := ix2.stay HF.out
   have HC : Hd (FineC fs[k].code) := HFI.out.2 _ (List.getElem_mem hlt)
   generalize fs[k] = f at *
   obtain ⟨a, b, e1, -⟩ := ix1
   obtain ⟨a'', b'', e3, -⟩ := ix2
   subst e1; subst e3
   have hk0 : (0 : Int) ≤ k := by omega
   have hk3 : (k : Int) < fs.length := by omega
   clear g1 g2 m1 m2
   go_wp2_with fail
   refine wp_region_still_tail 8 mixed (by kernel_rfl) ?_
   simp only [List.take_succ_cons, List.take_zero, List.drop_succ_cons, List.drop_zero]
   repeat still_step
   refine wpStill_nil ?_
   go_wp2_with fail
   refine (show Calls Tryd.prog 47 #[.agg #[vI f.P, vI f.R, vI f.V, .slice a f.code.length b], .agg #[vI f.P, vI f.R, vI f.V, .slice a'' f.code.length b'']] wr.drew _ from eqFunc_same f _ _ wr.drew X1.out X2.out HC.out).mono ?_
   rintro e w1 ⟨rfl, hF1⟩
   have HF1 : Hd (Fr (fun _ => False) w w1) := HF.out.drew.trans hF1
   clear hF1 p0 p1 p2 p3 q0 q1 q2 q3
   go_wp2_with fail
   exact ⟨⟨k + 1, by simp, by omega, HF1.out⟩, by simp; omega⟩
  ·have hke : k = fs.length := by omega
   subst hke
   go_wp2_with fail
   go_ret
   exact ⟨rfl, HF.out⟩
theorem eqProgram_same (G : Int) (fs : List PF) (x1 x2 : Value) (w : World) (h1 : FA w x1 fs) (h3 : FA w x2 fs) (hn : FineP fs) :
 Calls Tryd.prog 8 #[.agg #[vI G, x1], .agg #[vI G, x2]] w fun e w' => e = .returned (.bool true) ∧ Fr (fun _ => False) w w' := by
 obtain ⟨a1, b1, e1, -⟩ := id h1
 obtain ⟨a3, b3, e3, -⟩ := id h3
 have hF : Fr (fun _ => False) w ((w.alloc (.cells #[vI G, x1] 24)).alloc (.cells #[vI G, x2] 24)) := Fr.alloc (Fr.alloc (Fr.refl _ w) _) _
 have HB1 : Hd (((w.alloc (.cells #[vI G, x1] 24)).alloc (.cells #[vI G, x2] 24)).heap[w.heap.size]? = some (.cells #[vI G, x1] 24)) := by
  unfold Hd; rw [Go.RowKit.Below.heap_alloc _ _ _ (by simp)]; exact heap_new w _
 have HB2 : Hd (((w.alloc (.cells #[vI G, x1] 24)).alloc (.cells #[vI G, x2] 24)).heap[w.heap.size + 1]? = some (.cells #[vI G, x2] 24)) := by
  unfold Hd; rw [show w.heap.size + 1 = (w.alloc (.cells #[vI G, x1] 24)).heap.size by simp]; exact heap_new _ _
 have H1 := h1.stay hF
 have H3 := h3.stay hF
 have G1 : Hd _ := H1
 have G3 : Hd _ := H3
 have HF : Hd _ := hF
 clear h1 h3 H1 H3 hF
 subst e1; subst e3
 have q0 : (G == G) = true := by simp
 go_enter Tryd.func8, Tryd.ntmps8
 go_upto_region 1 with fail
 generalize (w.alloc (.cells #[vI G, .slice a1 fs.length b1] 24)).alloc (.cells #[vI G, .slice a3 fs.length b3] 24) = wa at *
 have c0 : wa.cell? ⟨w.heap.size, 0, none⟩ = some (vI G) := by rw [cell_of HB1.out]; rfl
 have c1 : wa.cell? ⟨w.heap.size, 1, none⟩ = some (.slice a1 fs.length b1) := by rw [cell_of HB1.out]; rfl
 have d0 : wa.cell? ⟨w.heap.size + 1, 0, none⟩ = some (vI G) := by rw [cell_of HB2.out]; rfl
 have d1 : wa.cell? ⟨w.heap.size + 1, 1, none⟩ = some (.slice a3 fs.length b3) := by rw [cell_of HB2.out]; rfl
 go_wp2_with fail
 refine (show Calls Tryd.prog 26 #[.slice a1 fs.length b1, .slice a3 fs.length b3] wa _ from eqFuncs_same _ _ fs wa G1.out G3.out hn).mono ?_
 rintro e w1 ⟨rfl, hF1⟩
 have HF1 : Hd (Fr (fun _ => False) w w1) := HF.out.trans hF1
 clear hF1 c0 c1 d0 d1 HB1 HB2
 go_wp2_with fail
 go_ret
 exact ⟨rfl, HF1.out⟩
set_option maxRecDepth 100000
set_option maxHeartbeats 1000000
theorem flat_get {α : Type} (row : α → List Value) (sz : Nat) (hr : ∀ x, (row x).length = sz) : ∀ (L : List α) (i o : Nat) (h : i < L.length), o < sz → (L.flatMap row)[i * sz + o]? = (row L[i])[o]?
 | [], i, o, h, _ => absurd h (by simp)
 | x :: L, 0, o, _, ho => by
   rw [Nat.zero_mul, Nat.zero_add, List.flatMap_cons, List.getElem?_append_left (by rw [hr]; exact ho)]
   rfl
 | x :: L, i + 1, o, h, ho => by
   rw [List.flatMap_cons, List.getElem?_append_right (by rw [hr, Nat.add_mul]; omega), hr, show (i + 1) * sz + o - sz = i * sz + o by rw [Nat.add_mul]; omega]
   exact flat_get row sz hr L i o (by simpa using h) ho
theorem own_cell {w : World} {B e sz n : Nat} {v : Value} {xs : List Value} (h : w.ownsRow B e sz v n xs) {j : Nat} {u : Value} (hj : xs[j]? = some u) : ∃ g cap, v = .slice (some ⟨g, 0, none⟩) n cap ∧ g < w.heap.size ∧ w.cell? ⟨g, j, none⟩ = some u := by
 obtain ⟨h0, h1⟩ := h
 have hjl := (List.getElem?_eq_some_iff.1 hj).1
 rcases h1 with ⟨-, e2⟩ | ⟨g, cap, cur, rfl, k1, k2, k3, k4, k5, k6⟩
 ·subst e2; simp at h0; subst h0; simp at hjl
 ·refine ⟨g, cap, rfl, heap_lt k2, ?_⟩
  rw [cell_of k2, ← Array.getElem?_toList]
  rw [← k6] at hj
  rw [List.getElem?_take_of_lt (by omega)] at hj
  exact hj
theorem own_apart {w : World} {B B' e e' sz sz' n m : Nat} {v u : Value} {xs ys : List Value} (h : w.ownsRow B e sz v n xs) (k : w.ownsRow B' e' sz' u m ys) (he : e ≠ e') : ∀ j, u.ownBlock = some j → v.ownBlock ≠ some j := by
 intro j hu hv
 rcases h.2 with ⟨rfl, -⟩ | ⟨g, cap, cur, rfl, -, h2, -⟩
 ·cases hv
 ·rcases k.2 with ⟨rfl, -⟩ | ⟨g', cap', cur', rfl, -, k2, -⟩
  ·cases hu
  ·cases hv
   cases hu
   rw [h2] at k2
   cases k2
   exact he rfl
abbrev CI := PI × Value × Value
abbrev rowI (x : CI) : List Value := iR x.1 x.2
structure CO (w : World) (B : Nat) (v : Value) (L : List CI) : Prop where
 row : w.ownsRow B 57 7 v L.length (L.flatMap rowI)
 ints : ∀ x ∈ L, IOwn w B x.2.1 x.1.args ∧ IOwn w B x.2.2 x.1.rets
theorem CO.ca {w : World} {B : Nat} {v : Value} {L : List CI} (h : CO w B v L) : CA w v (L.map (·.1)) := by
 rcases h.row.2 with ⟨h2, h3⟩ | ⟨g, cap, cur, e, -⟩
 ·refine ⟨none, 0, by rw [h2, List.length_map, h3], fun hne => ?_⟩
  exact absurd (by rw [List.eq_nil_of_length_eq_zero h3]; rfl) hne
 ·refine ⟨some ⟨g, 0, none⟩, cap, by rw [e, List.length_map], fun _ => ⟨g, 0, rfl, (World.ownsRow.lt h.row g (by rw [e]; rfl)).2, fun j hj => ?_⟩⟩
  have hj' : j < L.length := by simpa using hj
  have pc : ∀ o u, o < 7 → (rowI L[j])[o]? = some u → w.cell? ⟨g, j * 7 + o, none⟩ = some u := fun o u ho hu => by
   obtain ⟨g', cap', e', -, hc⟩ := own_cell h.row (j := j * 7 + o) (u := u) (by rw [flat_get rowI 7 (fun _ => rfl) L j o hj' ho]; exact hu)
   rw [e] at e'
   cases e'
   exact hc
  have hi := h.ints L[j] (List.getElem_mem hj')
  rw [Nat.zero_add]
  simp only [List.getElem_map]
  exact ⟨L[j].2.1, L[j].2.2, pc 0 _ (by omega) rfl, pc 1 _ (by omega) rfl, pc 2 _ (by omega) rfl, pc 3 _ (by omega) rfl, pc 4 _ (by omega) rfl, pc 5 _ (by omega) rfl, pc 6 _ (by omega) rfl, hi.1.ia, hi.2.ia⟩
theorem CO.fr {S : Nat → Prop} {w w' : World} {B : Nat} {v : Value} {L : List CI} (h : CO w B v L) (f : Fr S w w') (h1 : ∀ k, v.ownBlock = some k → ¬ S k) (h2 : ∀ x ∈ L, ∀ k, (x.2.1.ownBlock = some k ∨ x.2.2.ownBlock = some k) → ¬ S k) : CO w' B v L :=
 ⟨ownsRow_frL h.row f h1, fun x hx => ⟨(h.ints x hx).1.fr f (fun k e => h2 x hx k (Or.inl e)), (h.ints x hx).2.fr f (fun k e => h2 x hx k (Or.inr e))⟩⟩
theorem CO.stay {w w' : World} {B : Nat} {v : Value} {L : List CI} (h : CO w B v L) (f : Fr (fun _ => False) w w') : CO w' B v L := h.fr f (fun _ _ e => e) (fun _ _ _ _ e => e)
theorem CO.mono {w : World} {B B' : Nat} {v : Value} {L : List CI} (h : CO w B v L) (hB : B' ≤ B) : CO w B' v L := ⟨World.ownsRow.mono h.row hB, fun x hx => ⟨(h.ints x hx).1.mono hB, (h.ints x hx).2.mono hB⟩⟩
theorem copyInstr_any (c : PI) (x y : Value) (w : World) (h1 : IA w x c.args) (h2 : IA w y c.rets) (hla : c.args.length ≤ 17592186043904) (hlr : c.rets.length ≤ 17592186043904) :
 Calls Tryd.prog 79 #[.agg #[vI c.op, vI c.r, vI c.s, vI c.t, vI c.n, x, y]] w fun e w' => ∃ x' y', e = .returned (.agg #[vI c.op, vI c.r, vI c.s, vI c.t, vI c.n, x', y']) ∧ IOwn w' w.heap.size x' c.args ∧ IOwn w' w.heap.size y' c.rets ∧ Fr (fun _ => False) w w' := by
 obtain ⟨a1, b1, e1, -⟩ := id h1
 obtain ⟨a2, b2, e2, -⟩ := id h2
 obtain ⟨wa, hwa⟩ : ∃ wa, wa = (w.alloc (.cells #[vI c.op, vI c.r, vI c.s, vI c.t, vI c.n, x, y] 57)).alloc (.cells #[vI 0, vI 0, vI 0, vI 0, vI 0, .slice none 0 0, .slice none 0 0] 57) := ⟨_, rfl⟩
 have hF : Fr (fun _ => False) w wa := by rw [hwa]; exact Fr.alloc (Fr.alloc (Fr.refl _ w) _) _
 have hsz : wa.heap.size = w.heap.size + 2 := by rw [hwa]; simp
 have b1' : wa.heap[w.heap.size]? = some (.cells #[vI c.op, vI c.r, vI c.s, vI c.t, vI c.n, x, y] 57) := by
  rw [hwa, Go.RowKit.Below.heap_alloc _ _ _ (by simp)]; exact heap_new w _
 have b2' : wa.heap[w.heap.size + 1]? = some (.cells #[vI 0, vI 0, vI 0, vI 0, vI 0, .slice none 0 0, .slice none 0 0] 57) := by
  rw [hwa, show w.heap.size + 1 = (w.alloc (.cells #[vI c.op, vI c.r, vI c.s, vI c.t, vI c.n, x, y] 57)).heap.size by simp]; exact heap_new _ _
 have HWA : Hd (wa = (w.alloc (.cells #[vI c.op, vI c.r, vI c.s, vI c.t, vI c.n, x, y] 57)).alloc (.cells #[vI 0, vI 0, vI 0, vI 0, vI 0, .slice none 0 0, .slice none 0 0] 57)) := hwa
 have G1 : Hd (IA wa x c.args) := h1.stay hF
 have G2 : Hd (IA w y c.rets) := h2
 have HF : Hd (Fr (fun _ => False) w wa) := hF
 obtain ⟨H, hH⟩ : ∃ H, H = w.heap.size := ⟨_, rfl⟩
 have HH : Hd (H = w.heap.size) := hH
 have HSZ : Hd (wa.heap.size = H + 2) := by rw [hH]; exact hsz
 rw [← hH] at b1' b2'
 have B1 : Hd _ := b1'
 have B2 : Hd _ := b2'
 have p5 : wa.cell? ⟨H, 5, none⟩ = some x := by rw [cell_of b1']; rfl
 subst e1; subst e2
 clear h1 h2 hF hsz hwa hH b1' b2'
 go_enter Tryd.func79, Tryd.ntmps79
 go_upto_region 1 with fail
 rw [← HWA.out, ← HH.out]
 clear HWA
 go_wp2_with fail
 refine (show Calls Tryd.prog 82 #[.slice a1 c.args.length b1] wa _ from copyInts_any _ c.args wa G1.out hla).mono ?_
 rintro e w2 ⟨x', rfl, hx', hF2⟩
 have hxs : ∀ k, x'.ownBlock = some k → H + 2 ≤ k := fun k e => by have := (hx'.ge k e).1; have := HSZ.out; omega
 have B1' : w2.heap[H]? = some (.cells #[vI c.op, vI c.r, vI c.s, vI c.t, vI c.n, .slice a1 c.args.length b1, .slice a2 c.rets.length b2] 57) := (hF2.block H (heap_lt B1.out) (fun e => e)).trans B1.out
 have B2' : w2.heap[H + 1]? = some (.cells #[vI 0, vI 0, vI 0, vI 0, vI 0, .slice none 0 0, .slice none 0 0] 57) := (hF2.block (H + 1) (heap_lt B2.out) (fun e => e)).trans B2.out
 obtain ⟨xa, xc, exa⟩ : ∃ xa xc, x' = .slice xa c.args.length xc := by obtain ⟨xa, xc, e, -⟩ := hx'.ia; exact ⟨xa, xc, e⟩
 have q5 : w2.cell? ⟨H, 5, none⟩ = some (.slice a1 c.args.length b1) := by rw [cell_of B1']; rfl
 have z5 := frozen_of B1' 5
 have fs2 := setCell_fr w2 H 5 x'
 have C1 : Hd ((w2.setCell ⟨H, 5, none⟩ x').heap[H]? = some (.cells #[vI c.op, vI c.r, vI c.s, vI c.t, vI c.n, x', .slice a2 c.rets.length b2] 57)) := set_of B1' 5 x'
 have C2 : Hd ((w2.setCell ⟨H, 5, none⟩ x').heap[H + 1]? = some (.cells #[vI 0, vI 0, vI 0, vI 0, vI 0, .slice none 0 0, .slice none 0 0] 57)) := (fs2.block (H + 1) (heap_lt B2') (by omega)).trans B2'
 have HX : Hd (IOwn (w2.setCell ⟨H, 5, none⟩ x') (H + 2) x' c.args) := (hx'.mono (by rw [HSZ.out]; exact Nat.le_refl _)).fr fs2 (fun k e e2 => by have := hxs k e; omega)
 have HF2 : Hd (Fr (fun _ => False) w (w2.setCell ⟨H, 5, none⟩ x')) := (HF.out.trans hF2).then fs2 (fun j hj e => by have := HH.out; omega)
 have HZ2 : Hd (H + 2 ≤ (w2.setCell ⟨H, 5, none⟩ x').heap.size) := by have := hF2.size; have := HSZ.out; have := fs2.size; unfold Hd; omega
 have G2' : Hd (IA (w2.setCell ⟨H, 5, none⟩ x') (.slice a2 c.rets.length b2) c.rets) := IA.stay G2.out HF2.out
 subst exa
 clear hx' hF2 hxs fs2 B1' B2' p5 B1 B2 G1 G2 HF HSZ
 go_upto_region 2 with fail
 clear q5 z5
 generalize w2.setCell ⟨H, 5, none⟩ (.slice xa c.args.length xc) = w3 at *
 have q6 : w3.cell? ⟨H, 6, none⟩ = some (.slice a2 c.rets.length b2) := by rw [cell_of C1.out]; rfl
 go_wp2_with fail
 refine (show Calls Tryd.prog 82 #[.slice a2 c.rets.length b2] w3 _ from copyInts_any _ c.rets w3 G2'.out hlr).mono ?_
 rintro e w4 ⟨y', rfl, hy', hF4⟩
 have hys : ∀ k, y'.ownBlock = some k → H + 2 ≤ k := fun k e => by have := (hy'.ge k e).1; have := HZ2.out; omega
 have B1' : w4.heap[H]? = some (.cells #[vI c.op, vI c.r, vI c.s, vI c.t, vI c.n, .slice xa c.args.length xc, .slice a2 c.rets.length b2] 57) := (hF4.block H (heap_lt C1.out) (fun e => e)).trans C1.out
 have B2' : w4.heap[H + 1]? = some (.cells #[vI 0, vI 0, vI 0, vI 0, vI 0, .slice none 0 0, .slice none 0 0] 57) := (hF4.block (H + 1) (heap_lt C2.out) (fun e => e)).trans C2.out
 obtain ⟨ya, yc, eya⟩ : ∃ ya yc, y' = .slice ya c.rets.length yc := by obtain ⟨ya, yc, e, -⟩ := hy'.ia; exact ⟨ya, yc, e⟩
 have fs4 := setCell_fr w4 H 6 y'
 have D1 : (w4.setCell ⟨H, 6, none⟩ y').heap[H]? = some (.cells #[vI c.op, vI c.r, vI c.s, vI c.t, vI c.n, .slice xa c.args.length xc, y'] 57) := set_of B1' 6 y'
 have D2 : (w4.setCell ⟨H, 6, none⟩ y').heap[H + 1]? = some (.cells #[vI 0, vI 0, vI 0, vI 0, vI 0, .slice none 0 0, .slice none 0 0] 57) := (fs4.block (H + 1) (heap_lt B2') (by omega)).trans B2'
 have HX4 : IOwn (w4.setCell ⟨H, 6, none⟩ y') (H + 2) (.slice xa c.args.length xc) c.args := (HX.out.fr hF4 (fun _ _ e => e)).fr fs4 (fun k e e2 => by have := (HX.out.ge k e).1; omega)
 have HY4 : IOwn (w4.setCell ⟨H, 6, none⟩ y') (H + 2) y' c.rets := (hy'.mono HZ2.out).fr fs4 (fun k e e2 => by have := hys k e; omega)
 have HF4 : Fr (fun _ => False) w (w4.setCell ⟨H, 6, none⟩ y') := (HF2.out.trans hF4).then fs4 (fun j hj e => by have := HH.out; omega)
 have r6 : w4.cell? ⟨H, 6, none⟩ = some (.slice a2 c.rets.length b2) := by rw [cell_of B1']; rfl
 have z6 := frozen_of B1' 6
 subst eya
 have J1 : Hd _ := D1
 have J2 : Hd _ := D2
 have JX : Hd _ := HX4
 have JY : Hd _ := HY4
 have JF : Hd _ := HF4
 clear hy' hF4 hys fs4 B1' B2' D1 D2 HX4 HY4 HF4 C1 C2 HX HF2 HZ2 G2'
 go_upto_region 3 with fail
 clear q6 r6 z6
 generalize w4.setCell ⟨H, 6, none⟩ (.slice ya c.rets.length yc) = w5 at *
 have c0 : w5.cell? ⟨H, 0, none⟩ = some (vI c.op) := by rw [cell_of J1.out]; rfl
 have c1 : w5.cell? ⟨H, 1, none⟩ = some (vI c.r) := by rw [cell_of J1.out]; rfl
 have c2 : w5.cell? ⟨H, 2, none⟩ = some (vI c.s) := by rw [cell_of J1.out]; rfl
 have c3 : w5.cell? ⟨H, 3, none⟩ = some (vI c.t) := by rw [cell_of J1.out]; rfl
 have c4 : w5.cell? ⟨H, 4, none⟩ = some (vI c.n) := by rw [cell_of J1.out]; rfl
 have c5 : w5.cell? ⟨H, 5, none⟩ = some (.slice xa c.args.length xc) := by rw [cell_of J1.out]; rfl
 have c6 : w5.cell? ⟨H, 6, none⟩ = some (.slice ya c.rets.length yc) := by rw [cell_of J1.out]; rfl
 have d0 : w5.cell? ⟨H + 1, 0, none⟩ = some (vI 0) := by rw [cell_of J2.out]; rfl
 have d1 : w5.cell? ⟨H + 1, 1, none⟩ = some (vI 0) := by rw [cell_of J2.out]; rfl
 have d2 : w5.cell? ⟨H + 1, 2, none⟩ = some (vI 0) := by rw [cell_of J2.out]; rfl
 have d3 : w5.cell? ⟨H + 1, 3, none⟩ = some (vI 0) := by rw [cell_of J2.out]; rfl
 have d4 : w5.cell? ⟨H + 1, 4, none⟩ = some (vI 0) := by rw [cell_of J2.out]; rfl
 have d5 : w5.cell? ⟨H + 1, 5, none⟩ = some (.slice none 0 0) := by rw [cell_of J2.out]; rfl
 have d6 : w5.cell? ⟨H + 1, 6, none⟩ = some (.slice none 0 0) := by rw [cell_of J2.out]; rfl
 have y0 := frozen_of J2.out 0
 have y1 := frozen_of J2.out 1
 have y2 := frozen_of J2.out 2
 have y3 := frozen_of J2.out 3
 have y4 := frozen_of J2.out 4
 have y5 := frozen_of J2.out 5
 have y6 := frozen_of J2.out 6
 have HL : Hd ((sev7 w5 (H + 1) 0 (iR c (.slice xa c.args.length xc, .slice ya c.rets.length yc))).heap[H + 1]? = some (.cells #[vI c.op, vI c.r, vI c.s, vI c.t, vI c.n, .slice xa c.args.length xc, .slice ya c.rets.length yc] 57)) :=
  set_of (set_of (set_of (set_of (set_of (set_of (set_of J2.out 0 _) 1 _) 2 _) 3 _) 4 _) 5 _) 6 _
 have fs6 := sev7_fr w5 (H + 1) 0 (iR c (.slice xa c.args.length xc, .slice ya c.rets.length yc))
 have KX : Hd (IOwn (sev7 w5 (H + 1) 0 (iR c (.slice xa c.args.length xc, .slice ya c.rets.length yc))) w.heap.size (.slice xa c.args.length xc) c.args) := (IOwn.fr JX.out fs6 (fun k e e2 => by have := (IOwn.ge JX.out k e).1; omega)).mono (by have := HH.out; omega)
 have KY : Hd (IOwn (sev7 w5 (H + 1) 0 (iR c (.slice xa c.args.length xc, .slice ya c.rets.length yc))) w.heap.size (.slice ya c.rets.length yc) c.rets) := (IOwn.fr JY.out fs6 (fun k e e2 => by have := (IOwn.ge JY.out k e).1; omega)).mono (by have := HH.out; omega)
 have KF : Hd (Fr (fun _ => False) w (sev7 w5 (H + 1) 0 (iR c (.slice xa c.args.length xc, .slice ya c.rets.length yc)))) := Fr.then JF.out fs6 (fun j hj e => by have := HH.out; omega)
 clear fs6
 go_wp2_with fail
 change bodyPost _ _ _ _ _ (sev7 w5 (H + 1) 0 (iR c (.slice xa c.args.length xc, .slice ya c.rets.length yc)))
 generalize sev7 w5 (H + 1) 0 (iR c (.slice xa c.args.length xc, .slice ya c.rets.length yc)) = wz at *
 have e0 : wz.cell? ⟨H + 1, 0, none⟩ = some (vI c.op) := by rw [cell_of HL.out]; rfl
 have e1 : wz.cell? ⟨H + 1, 1, none⟩ = some (vI c.r) := by rw [cell_of HL.out]; rfl
 have e2 : wz.cell? ⟨H + 1, 2, none⟩ = some (vI c.s) := by rw [cell_of HL.out]; rfl
 have e3 : wz.cell? ⟨H + 1, 3, none⟩ = some (vI c.t) := by rw [cell_of HL.out]; rfl
 have e4 : wz.cell? ⟨H + 1, 4, none⟩ = some (vI c.n) := by rw [cell_of HL.out]; rfl
 have e5 : wz.cell? ⟨H + 1, 5, none⟩ = some (.slice xa c.args.length xc) := by rw [cell_of HL.out]; rfl
 have e6 : wz.cell? ⟨H + 1, 6, none⟩ = some (.slice ya c.rets.length yc) := by rw [cell_of HL.out]; rfl
 refine bodyPost_ret (v := .agg #[vI c.op, vI c.r, vI c.s, vI c.t, vI c.n, .slice xa c.args.length xc, .slice ya c.rets.length yc]) ?_ rfl ⟨_, _, rfl, KX.out, KY.out, KF.out⟩
 rw [results_cell (p := 2) (ty := 57) Tryd.results79]
 simp [go_sem, e0, e1, e2, e3, e4, e5, e6]
set_option maxRecDepth 100000
set_option maxHeartbeats 2000000
theorem copyCode_any (v : Value) (cs : List PI) (w : World) (hl : CA w v cs) (hn : FineC cs) :
 Calls Tryd.prog 73 #[v] w fun e w' => ∃ v' L, e = .returned v' ∧ CO w' w.heap.size v' L ∧ L.map (·.1) = cs ∧ Fr (fun _ => False) w w' := by
 obtain ⟨ea, ec, rfl, hein⟩ := hl
 have HE : Hd _ := hein
 have HFI : Hd (FineC cs) := hn
 have hz := hn.1
 clear hein hn
 obtain ⟨i7, hi7, hz7, hs7, hb7⟩ := info_parts (P := Tryd.prog) (e := 57) (z := .agg #[vI 0, vI 0, vI 0, vI 0, vI 0, .slice none 0 0, .slice none 0 0]) (size := 7) (bytes := 88) (by kernel_rfl)
 go_enter Tryd.func73, Tryd.ntmps73
 go_wp2_with fail
 go_loopw [3, 4] (fun mv v wr => ∃ (k : Nat) (L : List CI), v = .int .i64 k ∧ k ≤ cs.length ∧ Hd (CO wr w.heap.size mv L) ∧ Hd (L.map (·.1) = cs.take k) ∧ Hd (Fr (fun _ => False) w wr)) (fun _ v _ => match v with | .int _ q => cs.length - q.toNat | _ => 0)
 case atStart => exact ⟨0, [], rfl, Nat.zero_le _, ⟨World.ownsRow_nil _ _ _ _, fun x hx => by simp at hx⟩, rfl, Fr.refl _ _⟩
 case round =>
  obtain ⟨k, L, rfl, hk, HO, HM, HF⟩ := hrel
  by_cases hlt : k < cs.length
  ·have hne : cs ≠ [] := by intro e; simp [e] at hlt
   obtain ⟨k1, o1, rfl, hk1, g1⟩ := HE.out hne
   obtain ⟨x1, y1, p0, p1, p2, p3, p4, p5, p6, ix1, iy1⟩ := g1 k hlt
   have m1 := fun o => HF.out.cell (o := o) hk1 (fun h => h)
   have p0 := (m1 _).trans p0
   have p1 := (m1 _).trans p1
   have p2 := (m1 _).trans p2
   have p3 := (m1 _).trans p3
   have p4 := (m1 _).trans p4
   have p5 := (m1 _).trans p5
   have p6 := (m1 _).trans p6
   have X1 : Hd (IA wr x1 cs[k].args) := ix1.stay HF.out
   have Y1 : Hd (IA wr y1 cs[k].rets) := iy1.stay HF.out
   have HC : Hd (cs[k].args.length ≤ 17592186043904 ∧ cs[k].rets.length ≤ 17592186043904) := HFI.out.2 _ (List.getElem_mem hlt)
   have HT : Hd (cs.take (k + 1) = cs.take k ++ [cs[k]]) := by unfold Hd; rw [List.take_add_one, List.getElem?_eq_getElem hlt]; rfl
   have HLL : Hd (L.length = k) := by have := congrArg List.length HM.out; simp at this; unfold Hd; omega
   generalize cs[k] = c at *
   obtain ⟨a, b, e1, -⟩ := ix1
   obtain ⟨a', b', e2, -⟩ := iy1
   subst e1; subst e2
   have hk0 : (0 : Int) ≤ k := by omega
   have hk3 : (k : Int) < cs.length := by omega
   clear g1 m1
   go_wp2_with fail
   refine (show Calls Tryd.prog 79 #[.agg #[vI c.op, vI c.r, vI c.s, vI c.t, vI c.n, .slice a c.args.length b, .slice a' c.rets.length b']] wr _ from copyInstr_any c _ _ wr X1.out Y1.out (by have := HC.out; omega) (by have := HC.out; omega)).mono ?_
   rintro e w1 ⟨x', y', rfl, hx, hy, hF1⟩
   obtain ⟨xa, xc, rfl⟩ : ∃ xa xc, x' = .slice xa c.args.length xc := by obtain ⟨xa, xc, e, -⟩ := hx.ia; exact ⟨xa, xc, e⟩
   obtain ⟨ya, yc, rfl⟩ : ∃ ya yc, y' = .slice ya c.rets.length yc := by obtain ⟨ya, yc, e, -⟩ := hy.ia; exact ⟨ya, yc, e⟩
   obtain ⟨wb, hwb⟩ : ∃ wb, wb = w1.alloc (.cells #[vI c.op, vI c.r, vI c.s, vI c.t, vI c.n, .slice xa c.args.length xc, .slice ya c.rets.length yc] 57) := ⟨_, rfl⟩
   have hFb : Fr (fun _ => False) w1 wb := by rw [hwb]; exact Fr.alloc (Fr.refl _ w1) _
   have hFc : Fr (fun _ => False) w1 (wb.alloc (.cells #[vI c.op, vI c.r, vI c.s, vI c.t, vI c.n, .slice xa c.args.length xc, .slice ya c.rets.length yc] 57)) := Fr.alloc hFb _
   have b1 : wb.heap[w1.heap.size]? = some (.cells #[vI c.op, vI c.r, vI c.s, vI c.t, vI c.n, .slice xa c.args.length xc, .slice ya c.rets.length yc] 57) := by rw [hwb]; exact heap_new w1 _
   have HO1 : Hd (CO (wb.alloc (.cells #[vI c.op, vI c.r, vI c.s, vI c.t, vI c.n, .slice xa c.args.length xc, .slice ya c.rets.length yc] 57)) w.heap.size u3 L) := HO.out.stay (hF1.trans hFc)
   have HX1 : Hd (IOwn (wb.alloc (.cells #[vI c.op, vI c.r, vI c.s, vI c.t, vI c.n, .slice xa c.args.length xc, .slice ya c.rets.length yc] 57)) w.heap.size (.slice xa c.args.length xc) c.args) := (hx.fr hFc (fun _ _ e => e)).mono HF.out.size
   have HY1 : Hd (IOwn (wb.alloc (.cells #[vI c.op, vI c.r, vI c.s, vI c.t, vI c.n, .slice xa c.args.length xc, .slice ya c.rets.length yc] 57)) w.heap.size (.slice ya c.rets.length yc) c.rets) := (hy.fr hFc (fun _ _ e => e)).mono HF.out.size
   have HF1 : Hd (Fr (fun _ => False) w (wb.alloc (.cells #[vI c.op, vI c.r, vI c.s, vI c.t, vI c.n, .slice xa c.args.length xc, .slice ya c.rets.length yc] 57))) := HF.out.trans (hF1.trans hFc)
   have HWB : Hd (wb = w1.alloc (.cells #[vI c.op, vI c.r, vI c.s, vI c.t, vI c.n, .slice xa c.args.length xc, .slice ya c.rets.length yc] 57)) := hwb
   have HRW : Hd ((wb.alloc (.cells #[vI c.op, vI c.r, vI c.s, vI c.t, vI c.n, .slice xa c.args.length xc, .slice ya c.rets.length yc] 57)).ownsRow w.heap.size 57 7 u3 L.length (L.flatMap rowI)) := HO1.out.row
   have hnews : ∀ j u, [vI c.op, vI c.r, vI c.s, vI c.t, vI c.n, .slice xa c.args.length xc, .slice ya c.rets.length yc][j]? = some u → (wb.alloc (.cells #[vI c.op, vI c.r, vI c.s, vI c.t, vI c.n, .slice xa c.args.length xc, .slice ya c.rets.length yc] 57)).cell? ((⟨wb.heap.size, 0, none⟩ : Addr).add j) = some u :=
    World.news_of_block (cs := #[vI c.op, vI c.r, vI c.s, vI c.t, vI c.n, .slice xa c.args.length xc, .slice ya c.rets.length yc]) (heap_new wb _)
   have hbase : w.heap.size ≤ (wb.alloc (.cells #[vI c.op, vI c.r, vI c.s, vI c.t, vI c.n, .slice xa c.args.length xc, .slice ya c.rets.length yc] 57)).heap.size := HF1.out.size
   have hEl : L.length + 1 ≤ 1599289640355 := by have := HLL.out; omega
   have u0 : wb.cell? ⟨w1.heap.size, 0, none⟩ = some (vI c.op) := by rw [cell_of b1]; rfl
   have u1 : wb.cell? ⟨w1.heap.size, 1, none⟩ = some (vI c.r) := by rw [cell_of b1]; rfl
   have u2 : wb.cell? ⟨w1.heap.size, 2, none⟩ = some (vI c.s) := by rw [cell_of b1]; rfl
   have u3' : wb.cell? ⟨w1.heap.size, 3, none⟩ = some (vI c.t) := by rw [cell_of b1]; rfl
   have u4 : wb.cell? ⟨w1.heap.size, 4, none⟩ = some (vI c.n) := by rw [cell_of b1]; rfl
   have u5 : wb.cell? ⟨w1.heap.size, 5, none⟩ = some (.slice xa c.args.length xc) := by rw [cell_of b1]; rfl
   have u6 : wb.cell? ⟨w1.heap.size, 6, none⟩ = some (.slice ya c.rets.length yc) := by rw [cell_of b1]; rfl
   clear hx hy hF1 hFb hFc b1 HO HF hwb p0 p1 p2 p3 p4 p5 p6
   go_upto_region 6 with fail
   rw [← HWB.out]
   clear HWB
   go_wp2_with ((at_builtin; refine Hd.out ?_))
   unfold Hd
   refine wpList_append_lies _ rfl (.tmp 17) (.tmp 19) 40 rfl w.heap.size 57 i7 (.agg #[vI 0, vI 0, vI 0, vI 0, vI 0, .slice none 0 0, .slice none 0 0]) 7 88 under65 hi7 hz7 hs7 hb7 rfl (by omega) u3 L.length _ rfl HRW.out ⟨wb.heap.size, 0, none⟩ 1 1 [vI c.op, vI c.r, vI c.s, vI c.t, vI c.n, .slice xa c.args.length xc, .slice ya c.rets.length yc] rfl rfl hnews (by intro u hu; simp at hu; rcases hu with rfl | rfl | rfl | rfl | rfl | rfl | rfl <;> rfl) (by omega) (by unfold maxLen; omega) (by omega) hbase (wb.heap.size + 1) (by simp) ?_
   intro g6 cap6 w6 hown6 hgrow6 hat6 hlt6
   have hF6 := grown_frL hgrow6
   have HO6 : Hd (CO w6 w.heap.size (.slice (some ⟨g6, 0, none⟩) (L.length + 1) cap6) (L ++ [(c, .slice xa c.args.length xc, .slice ya c.rets.length yc)])) := by
    refine ⟨?_, fun x hx => ?_⟩
    ·rw [List.length_append, List.flatMap_append]
     simpa using hown6
    ·rcases List.mem_append.1 hx with hx | hx
     ·have hi := HO1.out.ints x hx
      exact ⟨hi.1.fr hF6 (fun j e e2 => own_apart HRW.out hi.1 (by decide) j e e2), hi.2.fr hF6 (fun j e e2 => own_apart HRW.out hi.2 (by decide) j e e2)⟩
     ·simp at hx
      subst hx
      exact ⟨HX1.out.fr hF6 (fun j e e2 => own_apart HRW.out HX1.out (by decide) j e e2), HY1.out.fr hF6 (fun j e e2 => own_apart HRW.out HY1.out (by decide) j e e2)⟩
   have HF6 : Hd (Fr (fun _ => False) w w6) := grow_fr0 HF1.out hgrow6 (fun k hk => (World.ownsRow.lt HRW.out k hk).1)
   have HM6 : Hd ((L ++ [(c, Value.slice xa c.args.length xc, Value.slice ya c.rets.length yc)]).map (·.1) = cs.take (k + 1)) := by
    unfold Hd
    rw [HT.out, List.map_append, HM.out]
    rfl
   clear hown6 hgrow6 hat6 hlt6 HO1 HF1 HRW hnews hbase hF6 HX1 HY1 u0 u1 u2 u3' u4 u5 u6
   go_wp2_with fail
   exact ⟨⟨k + 1, _, by simp, by omega, HO6.out, HM6.out, HF6.out⟩, by simp; omega⟩
  ·have hke : k = cs.length := by omega
   subst hke
   have HM2 : Hd (L.map (·.1) = cs) := by have := HM.out; rw [List.take_length] at this; exact this
   clear HM
   go_wp2_with fail
   go_ret
   exact ⟨u3, L, rfl, HO.out, HM2.out, HF.out⟩
set_option maxRecDepth 100000
set_option maxHeartbeats 2000000
abbrev FI := PF × Value × List CI
abbrev rowF (x : FI) : List Value := fR x.1 x.2.1
structure FO (w : World) (B : Nat) (v : Value) (L : List FI) : Prop where
 row : w.ownsRow B 42 4 v L.length (L.flatMap rowF)
 code : ∀ x ∈ L, CO w B x.2.1 x.2.2 ∧ x.2.2.map (·.1) = x.1.code
theorem FO.fa {w : World} {B : Nat} {v : Value} {L : List FI} (h : FO w B v L) : FA w v (L.map (·.1)) := by
 rcases h.row.2 with ⟨h2, h3⟩ | ⟨g, cap, cur, e, -⟩
 ·refine ⟨none, 0, by rw [h2, List.length_map, h3], fun hne => ?_⟩
  exact absurd (by rw [List.eq_nil_of_length_eq_zero h3]; rfl) hne
 ·refine ⟨some ⟨g, 0, none⟩, cap, by rw [e, List.length_map], fun _ => ⟨g, 0, rfl, (World.ownsRow.lt h.row g (by rw [e]; rfl)).2, fun j hj => ?_⟩⟩
  have hj' : j < L.length := by simpa using hj
  have pc : ∀ o u, o < 4 → (rowF L[j])[o]? = some u → w.cell? ⟨g, j * 4 + o, none⟩ = some u := fun o u ho hu => by
   obtain ⟨g', cap', e', -, hc⟩ := own_cell h.row (j := j * 4 + o) (u := u) (by rw [flat_get rowF 4 (fun _ => rfl) L j o hj' ho]; exact hu)
   rw [e] at e'
   cases e'
   exact hc
  have hi := h.code L[j] (List.getElem_mem hj')
  rw [Nat.zero_add]
  simp only [List.getElem_map]
  refine ⟨L[j].2.1, pc 0 _ (by omega) rfl, pc 1 _ (by omega) rfl, pc 2 _ (by omega) rfl, pc 3 _ (by omega) rfl, ?_⟩
  rw [← hi.2]
  exact hi.1.ca
theorem FO.stay {w w' : World} {B : Nat} {v : Value} {L : List FI} (h : FO w B v L) (f : Fr (fun _ => False) w w') : FO w' B v L := ⟨ownsRow_frL h.row f (fun _ _ e => e), fun x hx => ⟨(h.code x hx).1.stay f, (h.code x hx).2⟩⟩
theorem CO.shape {w : World} {B : Nat} {v : Value} {L : List CI} (h : CO w B v L) : ∃ a c, v = .slice a L.length c := by
 rcases h.row.2 with ⟨h2, h3⟩ | ⟨g, cap, cur, e, -⟩
 ·exact ⟨none, 0, by rw [h2, h3]⟩
 ·exact ⟨_, _, e⟩
theorem copyFunc_any (f : PF) (x : Value) (w : World) (h1 : CA w x f.code) (hn : FineC f.code) :
 Calls Tryd.prog 49 #[.agg #[vI f.P, vI f.R, vI f.V, x]] w fun e w' => ∃ x' L, e = .returned (.agg #[vI f.P, vI f.R, vI f.V, x']) ∧ CO w' w.heap.size x' L ∧ L.map (·.1) = f.code ∧ Fr (fun _ => False) w w' := by
 obtain ⟨a1, b1, e1, -⟩ := id h1
 obtain ⟨wa, hwa⟩ : ∃ wa, wa = (w.alloc (.cells #[vI f.P, vI f.R, vI f.V, x] 42)).alloc (.cells #[vI 0, vI 0, vI 0, .slice none 0 0] 42) := ⟨_, rfl⟩
 have hF : Fr (fun _ => False) w wa := by rw [hwa]; exact Fr.alloc (Fr.alloc (Fr.refl _ w) _) _
 have hsz : wa.heap.size = w.heap.size + 2 := by rw [hwa]; simp
 have b1' : wa.heap[w.heap.size]? = some (.cells #[vI f.P, vI f.R, vI f.V, x] 42) := by
  rw [hwa, Go.RowKit.Below.heap_alloc _ _ _ (by simp)]; exact heap_new w _
 have b2' : wa.heap[w.heap.size + 1]? = some (.cells #[vI 0, vI 0, vI 0, .slice none 0 0] 42) := by
  rw [hwa, show w.heap.size + 1 = (w.alloc (.cells #[vI f.P, vI f.R, vI f.V, x] 42)).heap.size by simp]; exact heap_new _ _
 have HWA : Hd (wa = (w.alloc (.cells #[vI f.P, vI f.R, vI f.V, x] 42)).alloc (.cells #[vI 0, vI 0, vI 0, .slice none 0 0] 42)) := hwa
 have G1 : Hd (CA wa x f.code) := h1.stay hF
 have HF : Hd (Fr (fun _ => False) w wa) := hF
 obtain ⟨H, hH⟩ : ∃ H, H = w.heap.size := ⟨_, rfl⟩
 have HH : Hd (H = w.heap.size) := hH
 have HSZ : Hd (wa.heap.size = H + 2) := by rw [hH]; exact hsz
 rw [← hH] at b1' b2'
 have B1 : Hd _ := b1'
 have B2 : Hd _ := b2'
 have p3 : wa.cell? ⟨H, 3, none⟩ = some x := by rw [cell_of b1']; rfl
 subst e1
 clear h1 hF hsz hwa hH b1' b2'
 go_enter Tryd.func49, Tryd.ntmps49
 go_upto_region 1 with fail
 rw [← HWA.out, ← HH.out]
 clear HWA
 go_wp2_with fail
 refine (show Calls Tryd.prog 73 #[.slice a1 f.code.length b1] wa _ from copyCode_any _ f.code wa G1.out hn).mono ?_
 rintro e w2 ⟨x', L, rfl, hx', hL, hF2⟩
 have B1' : w2.heap[H]? = some (.cells #[vI f.P, vI f.R, vI f.V, .slice a1 f.code.length b1] 42) := (hF2.block H (heap_lt B1.out) (fun e => e)).trans B1.out
 have B2' : w2.heap[H + 1]? = some (.cells #[vI 0, vI 0, vI 0, .slice none 0 0] 42) := (hF2.block (H + 1) (heap_lt B2.out) (fun e => e)).trans B2.out
 obtain ⟨xa, xc, exa⟩ := hx'.shape
 have q3 : w2.cell? ⟨H, 3, none⟩ = some (.slice a1 f.code.length b1) := by rw [cell_of B1']; rfl
 have z3 := frozen_of B1' 3
 have fs2 := setCell_fr w2 H 3 x'
 have C1 : Hd ((w2.setCell ⟨H, 3, none⟩ x').heap[H]? = some (.cells #[vI f.P, vI f.R, vI f.V, x'] 42)) := set_of B1' 3 x'
 have C2 : Hd ((w2.setCell ⟨H, 3, none⟩ x').heap[H + 1]? = some (.cells #[vI 0, vI 0, vI 0, .slice none 0 0] 42)) := (fs2.block (H + 1) (heap_lt B2') (by omega)).trans B2'
 have hx2 := hx'.mono (B' := H + 2) (by rw [HSZ.out]; exact Nat.le_refl _)
 have HX : Hd (CO (w2.setCell ⟨H, 3, none⟩ x') (H + 2) x' L) := hx2.fr fs2 (fun k e e2 => by have := (World.ownsRow.lt hx2.row k e).1; omega) (fun y hy k e e2 => by
  rcases e with e | e
  ·have := ((hx2.ints y hy).1.ge k e).1; omega
  ·have := ((hx2.ints y hy).2.ge k e).1; omega)
 have HF2 : Hd (Fr (fun _ => False) w (w2.setCell ⟨H, 3, none⟩ x')) := (HF.out.trans hF2).then fs2 (fun j hj e => by have := HH.out; omega)
 have HLL : Hd (L.map (·.1) = f.code) := hL
 subst exa
 clear hx' hx2 hL hF2 fs2 B1' B2' p3 B1 B2 G1 HF HSZ
 go_upto_region 2 with fail
 clear q3 z3
 generalize w2.setCell ⟨H, 3, none⟩ (.slice xa L.length xc) = w5 at *
 have c0 : w5.cell? ⟨H, 0, none⟩ = some (vI f.P) := by rw [cell_of C1.out]; rfl
 have c1 : w5.cell? ⟨H, 1, none⟩ = some (vI f.R) := by rw [cell_of C1.out]; rfl
 have c2 : w5.cell? ⟨H, 2, none⟩ = some (vI f.V) := by rw [cell_of C1.out]; rfl
 have c3 : w5.cell? ⟨H, 3, none⟩ = some (.slice xa L.length xc) := by rw [cell_of C1.out]; rfl
 have d0 : w5.cell? ⟨H + 1, 0, none⟩ = some (vI 0) := by rw [cell_of C2.out]; rfl
 have d1 : w5.cell? ⟨H + 1, 1, none⟩ = some (vI 0) := by rw [cell_of C2.out]; rfl
 have d2 : w5.cell? ⟨H + 1, 2, none⟩ = some (vI 0) := by rw [cell_of C2.out]; rfl
 have d3 : w5.cell? ⟨H + 1, 3, none⟩ = some (.slice none 0 0) := by rw [cell_of C2.out]; rfl
 have y0 := frozen_of C2.out 0
 have y1 := frozen_of C2.out 1
 have y2 := frozen_of C2.out 2
 have y3 := frozen_of C2.out 3
 have HLz : Hd ((fou4 w5 (H + 1) 0 (fR f (.slice xa L.length xc))).heap[H + 1]? = some (.cells #[vI f.P, vI f.R, vI f.V, .slice xa L.length xc] 42)) := set_of (set_of (set_of (set_of C2.out 0 _) 1 _) 2 _) 3 _
 have fs6 := fou4_fr w5 (H + 1) 0 (fR f (.slice xa L.length xc))
 have KX : Hd (CO (fou4 w5 (H + 1) 0 (fR f (.slice xa L.length xc))) w.heap.size (.slice xa L.length xc) L) := (HX.out.fr fs6 (fun k e e2 => by have := (World.ownsRow.lt HX.out.row k e).1; omega) (fun y hy k e e2 => by
  rcases e with e | e
  ·have := ((HX.out.ints y hy).1.ge k e).1; omega
  ·have := ((HX.out.ints y hy).2.ge k e).1; omega)).mono (by have := HH.out; omega)
 have KF : Hd (Fr (fun _ => False) w (fou4 w5 (H + 1) 0 (fR f (.slice xa L.length xc)))) := Fr.then HF2.out fs6 (fun j hj e => by have := HH.out; omega)
 clear fs6
 go_wp2_with fail
 change bodyPost _ _ _ _ _ (fou4 w5 (H + 1) 0 (fR f (.slice xa L.length xc)))
 generalize fou4 w5 (H + 1) 0 (fR f (.slice xa L.length xc)) = wz at *
 have e0 : wz.cell? ⟨H + 1, 0, none⟩ = some (vI f.P) := by rw [cell_of HLz.out]; rfl
 have e1 : wz.cell? ⟨H + 1, 1, none⟩ = some (vI f.R) := by rw [cell_of HLz.out]; rfl
 have e2 : wz.cell? ⟨H + 1, 2, none⟩ = some (vI f.V) := by rw [cell_of HLz.out]; rfl
 have e3 : wz.cell? ⟨H + 1, 3, none⟩ = some (.slice xa L.length xc) := by rw [cell_of HLz.out]; rfl
 refine bodyPost_ret (v := .agg #[vI f.P, vI f.R, vI f.V, .slice xa L.length xc]) ?_ rfl ⟨_, L, rfl, KX.out, HLL.out, KF.out⟩
 rw [results_cell (p := 2) (ty := 42) Tryd.results49]
 simp [go_sem, e0, e1, e2, e3]
theorem copyFuncs_any (v : Value) (fs : List PF) (w : World) (hl : FA w v fs) (hn : FineP fs) :
 Calls Tryd.prog 28 #[v] w fun e w' => ∃ v' L, e = .returned v' ∧ FO w' w.heap.size v' L ∧ L.map (·.1) = fs ∧ Fr (fun _ => False) w w' := by
 obtain ⟨ea, ec, rfl, hein⟩ := hl
 have HE : Hd _ := hein
 have HFI : Hd (FineP fs) := hn
 have hz := hn.1
 clear hein hn
 obtain ⟨i7, hi7, hz7, hs7, hb7⟩ := info_parts (P := Tryd.prog) (e := 42) (z := .agg #[vI 0, vI 0, vI 0, .slice none 0 0]) (size := 4) (bytes := 48) (by kernel_rfl)
 go_enter Tryd.func28, Tryd.ntmps28
 go_wp2_with fail
 go_loopw [3, 4] (fun mv v wr => ∃ (k : Nat) (L : List FI), v = .int .i64 k ∧ k ≤ fs.length ∧ Hd (FO wr w.heap.size mv L) ∧ Hd (L.map (·.1) = fs.take k) ∧ Hd (Fr (fun _ => False) w wr)) (fun _ v _ => match v with | .int _ q => fs.length - q.toNat | _ => 0)
 case atStart => exact ⟨0, [], rfl, Nat.zero_le _, ⟨World.ownsRow_nil _ _ _ _, fun x hx => by simp at hx⟩, rfl, Fr.refl _ _⟩
 case round =>
  obtain ⟨k, L, rfl, hk, HO, HM, HF⟩ := hrel
  by_cases hlt : k < fs.length
  ·have hne : fs ≠ [] := by intro e; simp [e] at hlt
   obtain ⟨k1, o1, rfl, hk1, g1⟩ := HE.out hne
   obtain ⟨x1, p0, p1, p2, p3, ix1⟩ := g1 k hlt
   have m1 := fun o => HF.out.cell (o := o) hk1 (fun h => h)
   have p0 := (m1 _).trans p0
   have p1 := (m1 _).trans p1
   have p2 := (m1 _).trans p2
   have p3 := (m1 _).trans p3
   have X1 : Hd (CA wr x1 fs[k].code) := ix1.stay HF.out
   have HC : Hd (FineC fs[k].code) := HFI.out.2 _ (List.getElem_mem hlt)
   have HT : Hd (fs.take (k + 1) = fs.take k ++ [fs[k]]) := by unfold Hd; rw [List.take_add_one, List.getElem?_eq_getElem hlt]; rfl
   have HLL : Hd (L.length = k) := by have := congrArg List.length HM.out; simp at this; unfold Hd; omega
   generalize fs[k] = f at *
   obtain ⟨a, b, e1, -⟩ := ix1
   subst e1
   have hk0 : (0 : Int) ≤ k := by omega
   have hk3 : (k : Int) < fs.length := by omega
   clear g1 m1
   go_wp2_with fail
   refine (show Calls Tryd.prog 49 #[.agg #[vI f.P, vI f.R, vI f.V, .slice a f.code.length b]] wr _ from copyFunc_any f _ wr X1.out HC.out).mono ?_
   rintro e w1 ⟨x', Lx, rfl, hx, hLx, hF1⟩
   obtain ⟨xa, xc, rfl⟩ := hx.shape
   obtain ⟨wb, hwb⟩ : ∃ wb, wb = w1.alloc (.cells #[vI f.P, vI f.R, vI f.V, .slice xa Lx.length xc] 42) := ⟨_, rfl⟩
   have hFb : Fr (fun _ => False) w1 wb := by rw [hwb]; exact Fr.alloc (Fr.refl _ w1) _
   have hFc : Fr (fun _ => False) w1 (wb.alloc (.cells #[vI f.P, vI f.R, vI f.V, .slice xa Lx.length xc] 42)) := Fr.alloc hFb _
   have b1 : wb.heap[w1.heap.size]? = some (.cells #[vI f.P, vI f.R, vI f.V, .slice xa Lx.length xc] 42) := by rw [hwb]; exact heap_new w1 _
   have HO1 : Hd (FO (wb.alloc (.cells #[vI f.P, vI f.R, vI f.V, .slice xa Lx.length xc] 42)) w.heap.size u3 L) := HO.out.stay (hF1.trans hFc)
   have HX1 : Hd (CO (wb.alloc (.cells #[vI f.P, vI f.R, vI f.V, .slice xa Lx.length xc] 42)) w.heap.size (.slice xa Lx.length xc) Lx) := (hx.stay hFc).mono HF.out.size
   have HLX : Hd (Lx.map (·.1) = f.code) := hLx
   have HF1 : Hd (Fr (fun _ => False) w (wb.alloc (.cells #[vI f.P, vI f.R, vI f.V, .slice xa Lx.length xc] 42))) := HF.out.trans (hF1.trans hFc)
   have HWB : Hd (wb = w1.alloc (.cells #[vI f.P, vI f.R, vI f.V, .slice xa Lx.length xc] 42)) := hwb
   have HRW : Hd ((wb.alloc (.cells #[vI f.P, vI f.R, vI f.V, .slice xa Lx.length xc] 42)).ownsRow w.heap.size 42 4 u3 L.length (L.flatMap rowF)) := HO1.out.row
   have hnews : ∀ j u, [vI f.P, vI f.R, vI f.V, .slice xa Lx.length xc][j]? = some u → (wb.alloc (.cells #[vI f.P, vI f.R, vI f.V, .slice xa Lx.length xc] 42)).cell? ((⟨wb.heap.size, 0, none⟩ : Addr).add j) = some u :=
    World.news_of_block (cs := #[vI f.P, vI f.R, vI f.V, .slice xa Lx.length xc]) (heap_new wb _)
   have hbase : w.heap.size ≤ (wb.alloc (.cells #[vI f.P, vI f.R, vI f.V, .slice xa Lx.length xc] 42)).heap.size := HF1.out.size
   have hEl : L.length + 1 ≤ 2932031007318 := by have := HLL.out; omega
   have u0 : wb.cell? ⟨w1.heap.size, 0, none⟩ = some (vI f.P) := by rw [cell_of b1]; rfl
   have u1 : wb.cell? ⟨w1.heap.size, 1, none⟩ = some (vI f.R) := by rw [cell_of b1]; rfl
   have u2 : wb.cell? ⟨w1.heap.size, 2, none⟩ = some (vI f.V) := by rw [cell_of b1]; rfl
   have u3' : wb.cell? ⟨w1.heap.size, 3, none⟩ = some (.slice xa Lx.length xc) := by rw [cell_of b1]; rfl
   clear hx hLx hF1 hFb hFc b1 HO HF hwb p0 p1 p2 p3
   go_upto_region 6 with fail
   rw [← HWB.out]
   clear HWB
   go_wp2_with ((at_builtin; refine Hd.out ?_))
   unfold Hd
   refine wpList_append_lies _ rfl (.tmp 17) (.tmp 19) 22 rfl w.heap.size 42 i7 (.agg #[vI 0, vI 0, vI 0, .slice none 0 0]) 4 48 under24 hi7 hz7 hs7 hb7 rfl (by omega) u3 L.length _ rfl HRW.out ⟨wb.heap.size, 0, none⟩ 1 1 [vI f.P, vI f.R, vI f.V, .slice xa Lx.length xc] rfl rfl hnews (by intro u hu; simp at hu; rcases hu with rfl | rfl | rfl | rfl <;> rfl) (by omega) (by unfold maxLen; omega) (by omega) hbase (wb.heap.size + 1) (by simp) ?_
   intro g6 cap6 w6 hown6 hgrow6 hat6 hlt6
   have hF6 := grown_frL hgrow6
   have HO6 : Hd (FO w6 w.heap.size (.slice (some ⟨g6, 0, none⟩) (L.length + 1) cap6) (L ++ [(f, .slice xa Lx.length xc, Lx)])) := by
    have keep : ∀ (v : Value) (M : List CI), CO (wb.alloc (.cells #[vI f.P, vI f.R, vI f.V, .slice xa Lx.length xc] 42)) w.heap.size v M → CO w6 w.heap.size v M := fun v M hM =>
     hM.fr hF6 (fun j e e2 => own_apart HRW.out hM.row (by decide) j e e2) (fun y hy j e e2 => by
      rcases e with e | e
      ·exact own_apart HRW.out (hM.ints y hy).1 (by decide) j e e2
      ·exact own_apart HRW.out (hM.ints y hy).2 (by decide) j e e2)
    refine ⟨?_, fun x hx => ?_⟩
    ·rw [List.length_append, List.flatMap_append]
     simpa using hown6
    ·rcases List.mem_append.1 hx with hx | hx
     ·exact ⟨keep _ _ (HO1.out.code x hx).1, (HO1.out.code x hx).2⟩
     ·simp at hx
      subst hx
      exact ⟨keep _ _ HX1.out, HLX.out⟩
   have HF6 : Hd (Fr (fun _ => False) w w6) := grow_fr0 HF1.out hgrow6 (fun k hk => (World.ownsRow.lt HRW.out k hk).1)
   have HM6 : Hd ((L ++ [(f, Value.slice xa Lx.length xc, Lx)]).map (·.1) = fs.take (k + 1)) := by
    unfold Hd
    rw [HT.out, List.map_append, HM.out]
    rfl
   clear hown6 hgrow6 hat6 hlt6 HO1 HF1 HRW hnews hbase hF6 HX1 u0 u1 u2 u3'
   go_wp2_with fail
   exact ⟨⟨k + 1, _, by simp, by omega, HO6.out, HM6.out, HF6.out⟩, by simp; omega⟩
  ·have hke : k = fs.length := by omega
   subst hke
   have HM2 : Hd (L.map (·.1) = fs) := by have := HM.out; rw [List.take_length] at this; exact this
   clear HM
   go_wp2_with fail
   go_ret
   exact ⟨u3, L, rfl, HO.out, HM2.out, HF.out⟩
set_option maxRecDepth 100000
set_option maxHeartbeats 2000000
theorem FO.shape {w : World} {B : Nat} {v : Value} {L : List FI} (h : FO w B v L) : ∃ a c, v = .slice a L.length c := by
 rcases h.row.2 with ⟨h2, h3⟩ | ⟨g, cap, cur, e, -⟩
 ·exact ⟨none, 0, by rw [h2, h3]⟩
 ·exact ⟨_, _, e⟩
theorem FO.far {S : Nat → Prop} {w w' : World} {B : Nat} {v : Value} {L : List FI} (h : FO w B v L) (f : Fr S w w') (hS : ∀ k, S k → k < B) : FO w' B v L := by
 have no : ∀ k, B ≤ k → ¬ S k := fun k hk e => by have := hS k e; omega
 refine ⟨ownsRow_frL h.row f (fun k e => no k (World.ownsRow.lt h.row k e).1), fun x hx => ⟨(h.code x hx).1.fr f (fun k e => no k (World.ownsRow.lt (h.code x hx).1.row k e).1) (fun y hy k e => ?_), (h.code x hx).2⟩⟩
 rcases e with e | e
 ·exact no k (((h.code x hx).1.ints y hy).1.ge k e).1
 ·exact no k (((h.code x hx).1.ints y hy).2.ge k e).1
theorem FO.mono {w : World} {B B' : Nat} {v : Value} {L : List FI} (h : FO w B v L) (hB : B' ≤ B) : FO w B' v L := ⟨World.ownsRow.mono h.row hB, fun x hx => ⟨(h.code x hx).1.mono hB, (h.code x hx).2⟩⟩
theorem copyProgram_any (G : Int) (v : Value) (fs : List PF) (w : World) (hl : FA w v fs) (hn : FineP fs) :
 Calls Tryd.prog 12 #[.agg #[vI G, v]] w fun e w' => ∃ v', e = .returned (.agg #[vI G, v']) ∧ FA w' v' fs ∧ Fr (fun _ => False) w w' := by
 obtain ⟨a1, b1, e1, -⟩ := id hl
 obtain ⟨wa, hwa⟩ : ∃ wa, wa = (w.alloc (.cells #[vI G, v] 24)).alloc (.cells #[vI 0, .slice none 0 0] 24) := ⟨_, rfl⟩
 have hF : Fr (fun _ => False) w wa := by rw [hwa]; exact Fr.alloc (Fr.alloc (Fr.refl _ w) _) _
 have hsz : wa.heap.size = w.heap.size + 2 := by rw [hwa]; simp
 have b1' : wa.heap[w.heap.size]? = some (.cells #[vI G, v] 24) := by
  rw [hwa, Go.RowKit.Below.heap_alloc _ _ _ (by simp)]; exact heap_new w _
 have b2' : wa.heap[w.heap.size + 1]? = some (.cells #[vI 0, .slice none 0 0] 24) := by
  rw [hwa, show w.heap.size + 1 = (w.alloc (.cells #[vI G, v] 24)).heap.size by simp]; exact heap_new _ _
 have HWA : Hd (wa = (w.alloc (.cells #[vI G, v] 24)).alloc (.cells #[vI 0, .slice none 0 0] 24)) := hwa
 have G1 : Hd (FA wa v fs) := hl.stay hF
 have HF : Hd (Fr (fun _ => False) w wa) := hF
 obtain ⟨H, hH⟩ : ∃ H, H = w.heap.size := ⟨_, rfl⟩
 have HH : Hd (H = w.heap.size) := hH
 have HSZ : Hd (wa.heap.size = H + 2) := by rw [hH]; exact hsz
 rw [← hH] at b1' b2'
 have B1 : Hd _ := b1'
 have B2 : Hd _ := b2'
 have p0 : wa.cell? ⟨H, 0, none⟩ = some (vI G) := by rw [cell_of b1']; rfl
 have p1 : wa.cell? ⟨H, 1, none⟩ = some v := by rw [cell_of b1']; rfl
 subst e1
 clear hl hF hsz hwa hH b1' b2'
 go_enter Tryd.func12, Tryd.ntmps12
 go_upto_region 1 with fail
 rw [← HWA.out, ← HH.out]
 clear HWA
 go_region_held3 (fun w' => w'.cell? ⟨H, 0, none⟩ = some (vI G) ∧ w'.cell? ⟨H, 1, none⟩ = some (.slice a1 fs.length b1)) (go_keep) ((
  go_at_call 28
  refine (show Calls Tryd.prog 28 #[.slice a1 fs.length b1] wa.drew _ from copyFuncs_any _ fs wa.drew G1.out hn).mono ?_
  rintro e w2 ⟨x', L, rfl, hx', hL, hF2⟩
  have hG2 : Fr (fun _ => False) wa w2 := (Fr.refl _ wa).drew.trans hF2
  have B1' : w2.heap[H]? = some (.cells #[vI G, .slice a1 fs.length b1] 24) := (hG2.block H (heap_lt B1.out) (fun e => e)).trans B1.out
  have B2' : w2.heap[H + 1]? = some (.cells #[vI 0, .slice none 0 0] 24) := (hG2.block (H + 1) (heap_lt B2.out) (fun e => e)).trans B2.out
  have s0 : w2.cell? ⟨H, 0, none⟩ = some (vI G) := by rw [cell_of B1']; rfl
  have s1 : w2.cell? ⟨H, 1, none⟩ = some (.slice a1 fs.length b1) := by rw [cell_of B1']; rfl
  have d0 : w2.cell? ⟨H + 1, 0, none⟩ = some (vI 0) := by rw [cell_of B2']; rfl
  have d1 : w2.cell? ⟨H + 1, 1, none⟩ = some (.slice none 0 0) := by rw [cell_of B2']; rfl
  have y0 := frozen_of B2' 0
  have y1 := frozen_of B2' 1
  have HX : Hd (FO w2 (H + 2) x' L) := hx'.mono (by have := HSZ.out; show H + 2 ≤ wa.heap.size; omega)
  have HLL : Hd (L.map (·.1) = fs) := hL
  have HF2 : Hd (Fr (fun _ => False) w w2) := HF.out.trans hG2
  have HB2 : Hd (w2.heap[H + 1]? = some (.cells #[vI 0, .slice none 0 0] 24)) := B2'
  obtain ⟨xa, xc, rfl⟩ := hx'.shape
  clear hx' hL hF2 hG2 B1' B2'))
 all_goals
  have HZ : Hd (((w2.setCell ⟨H + 1, 0, none⟩ (vI G)).setCell ⟨H + 1, 1, none⟩ (.slice xa L.length xc)).heap[H + 1]? = some (.cells #[vI G, .slice xa L.length xc] 24)) := set_of (set_of HB2.out 0 _) 1 _
  have fs6 : Fr (fun j => j = H + 1) w2 ((w2.setCell ⟨H + 1, 0, none⟩ (vI G)).setCell ⟨H + 1, 1, none⟩ (.slice xa L.length xc)) := Fr.setCell (S := fun j => j = H + 1) (Fr.setCell (S := fun j => j = H + 1) (Fr.refl _ w2) _ _ (Or.inl rfl)) _ _ (Or.inl rfl)
  have KX : Hd (FA ((w2.setCell ⟨H + 1, 0, none⟩ (vI G)).setCell ⟨H + 1, 1, none⟩ (.slice xa L.length xc)) (.slice xa L.length xc) fs) := by
   have := (HX.out.far fs6 (fun k e => by omega)).fa
   rw [HLL.out] at this
   exact this
  have KF : Hd (Fr (fun _ => False) w ((w2.setCell ⟨H + 1, 0, none⟩ (vI G)).setCell ⟨H + 1, 1, none⟩ (.slice xa L.length xc))) := Fr.then HF2.out fs6 (fun j hj e => by have := HH.out; omega)
  clear fs6
  go_wp2_with fail
  generalize (w2.setCell ⟨H + 1, 0, none⟩ (vI G)).setCell ⟨H + 1, 1, none⟩ (.slice xa L.length xc) = wz at *
  have e0 : wz.cell? ⟨H + 1, 0, none⟩ = some (vI G) := by rw [cell_of HZ.out]; rfl
  have e1 : wz.cell? ⟨H + 1, 1, none⟩ = some (.slice xa L.length xc) := by rw [cell_of HZ.out]; rfl
  refine bodyPost_ret (v := .agg #[vI G, .slice xa L.length xc]) ?_ rfl ⟨_, rfl, KX.out, KF.out⟩
  rw [results_cell (p := 2) (ty := 24) Tryd.results12]
  simp [go_sem, e0, e1]
def PI.put (c : PI) (o : Nat) (z : Int) : PI := if o = 0 then { c with op := z } else { c with n := z }
theorem iR_put (c : PI) (p : Value × Value) {o : Nat} (ho : o = 0 ∨ o = 4) (z : Int) : iR (c.put o z) p = (iR c p).set o (vI z) := by
 rcases ho with rfl | rfl <;> rfl
theorem put_args (c : PI) (o : Nat) (z : Int) : (c.put o z).args = c.args ∧ (c.put o z).rets = c.rets := by
 unfold PI.put; split <;> exact ⟨rfl, rfl⟩
def Like (fs fs' : List PF) : Prop := fs'.length = fs.length ∧ ∀ j : Nat, fs'[j]?.map (fun f : PF => f.code.length) = fs[j]?.map (fun f : PF => f.code.length)
theorem Like.refl (fs : List PF) : Like fs fs := ⟨rfl, fun _ => rfl⟩
theorem Like.trans {a b c : List PF} (h : Like a b) (k : Like b c) : Like a c := ⟨k.1.trans h.1, fun j => (k.2 j).trans (h.2 j)⟩
theorem FineC.put {cs : List PI} (h : FineC cs) (k o : Nat) (hk : k < cs.length) (z : Int) : FineC (cs.set k (cs[k].put o z)) := by
 refine ⟨by rw [List.length_set]; exact h.1, fun c hc => ?_⟩
 rcases List.mem_or_eq_of_mem_set hc with hc | rfl
 ·exact h.2 c hc
 ·rw [(put_args _ _ _).1, (put_args _ _ _).2]; exact h.2 _ (List.getElem_mem hk)
theorem WF.code1 {w : World} {B : Nat} {v : Value} {fs : List PF} {g : Nat} {cv : Nat → Value} (h : WF w B v fs g cv) {i k o : Nat} (hi : i < fs.length) (hk : k < fs[i].code.length) (ho : o = 0 ∨ o = 4) {gc : Nat} (hgc : (cv i).ownBlock = some gc) (z : Int) :
 ∃ fs', Like fs fs' ∧ (FineP fs → FineP fs') ∧ WF (w.setCell ⟨gc, k * 7 + o, none⟩ (vI z)) B v fs' g cv := by
 have hci := h.code i fs[i] (List.getElem?_eq_getElem hi)
 have hne := hci.ne h.row (by decide) gc hgc
 have f := setCell_fr w gc (k * 7 + o) (vI z)
 refine ⟨fs.set i { fs[i] with code := fs[i].code.set k (fs[i].code[k].put o z) }, ⟨by simp, fun j => ?_⟩, fun hf => ⟨by rw [List.length_set]; exact hf.1, fun x hx => ?_⟩, ?_⟩
 ·rw [List.getElem?_set]
  by_cases e : i = j
  ·subst e
   rw [if_pos rfl, if_pos hi, List.getElem?_eq_getElem hi]
   simp
  ·rw [if_neg e]
 ·rcases List.mem_or_eq_of_mem_set hx with hx | rfl
  ·exact hf.2 x hx
  ·exact (hf.2 _ (List.getElem_mem hi)).put k o hk z
 ·have hget : ∀ j, (fs.set i { fs[i] with code := fs[i].code.set k (fs[i].code[k].put o z) })[j]? = if i = j then some { fs[i] with code := fs[i].code.set k (fs[i].code[k].put o z) } else fs[j]? := fun j => by
   rw [List.getElem?_set]
   by_cases e : i = j
   ·subst e; rw [if_pos rfl, if_pos rfl, if_pos hi]
   ·rw [if_neg e, if_neg e]
  refine ⟨by rw [List.length_set]; exact h.val, h.ge, ?_, fun j x hx => ?_, fun a b ha hb => h.apart a b (by rw [List.length_set] at ha; exact ha) (by rw [List.length_set] at hb; exact hb)⟩
  ·rw [List.length_set]
   refine (h.row.fr f (fun e => hne e.symm)).congr (fun j _ => ?_)
   unfold wideF
   rw [hget j]
   by_cases e : i = j
   ·subst e; rw [if_pos rfl, List.getElem?_eq_getElem hi]
   ·rw [if_neg e]
  ·rw [hget j] at hx
   by_cases e : i = j
   ·subst e
    rw [if_pos rfl] at hx
    cases hx
    obtain ⟨g', ps, ev, h1, h2, h3⟩ := hci
    have eg : g' = gc := by rw [ev] at hgc; cases hgc; rfl
    subst eg
    refine ⟨g', ps, by rw [ev]; simp, h1, ?_, fun q c hc => ?_⟩
    ·simp only [List.length_set]
     have := h2.set1 (i := k) (o := o) (by omega) (by omega) (wideC_len _ _ _) (vI z)
     refine this.congr (fun q _ => ?_)
     unfold wideC
     rw [List.getElem?_set]
     by_cases eq : k = q
     ·subst eq
      rw [at1_self, if_pos rfl, if_pos hk, List.getElem?_eq_getElem hk]
      exact (iR_put _ _ ho z).symm
     ·rw [at1_ne _ _ (Ne.symm eq), if_neg eq]
    ·rw [List.getElem?_set] at hc
     by_cases eq : k = q
     ·subst eq
      rw [if_pos rfl, if_pos hk] at hc
      cases hc
      have hw := h3 k fs[i].code[k] (List.getElem?_eq_getElem hk)
      rw [(put_args _ _ _).1, (put_args _ _ _).2]
      exact ⟨hw.1.fr f (hw.1.ne h2 (by decide)), hw.2.fr f (hw.2.ne h2 (by decide))⟩
     ·rw [if_neg eq] at hc
      have hw := h3 q c hc
      exact ⟨hw.1.fr f (hw.1.ne h2 (by decide)), hw.2.fr f (hw.2.ne h2 (by decide))⟩
   ·rw [if_neg e] at hx
    have hj : j < fs.length := (List.getElem?_eq_some_iff.1 hx).1
    obtain ⟨gi, psi, evi, -, hri, -⟩ := hci
    have egi : gi = gc := by rw [evi] at hgc; cases hgc; rfl
    subst egi
    have hap := h.apart i j hi hj e
    obtain ⟨g', ps, ev, h1, h2, h3⟩ := h.code j x hx
    have hgg : g' ≠ gi := fun e2 => by
     subst e2
     rw [hgc, ev] at hap
     exact hap rfl
    exact ⟨g', ps, ev, h1, h2.fr f hgg, fun q c hc => ⟨(h3 q c hc).1.fr f ((h3 q c hc).1.ne hri (by decide)), (h3 q c hc).2.fr f ((h3 q c hc).2.ne hri (by decide))⟩⟩
theorem WF.vars1 {w : World} {B : Nat} {v : Value} {fs : List PF} {g : Nat} {cv : Nat → Value} (h : WF w B v fs g cv) {i : Nat} (hi : i < fs.length) (z : Int) :
 ∃ fs', Like fs fs' ∧ (FineP fs → FineP fs') ∧ WF (w.setCell ⟨g, i * 4 + 2, none⟩ (vI z)) B v fs' g cv := by
 have f := setCell_fr w g (i * 4 + 2) (vI z)
 refine ⟨fs.set i { fs[i] with V := z }, ⟨by simp, fun j => ?_⟩, fun hf => ⟨by rw [List.length_set]; exact hf.1, fun x hx => ?_⟩, ?_⟩
 ·rw [List.getElem?_set]
  by_cases e : i = j
  ·subst e
   rw [if_pos rfl, if_pos hi, List.getElem?_eq_getElem hi]
   simp
  ·rw [if_neg e]
 ·rcases List.mem_or_eq_of_mem_set hx with hx | rfl
  ·exact hf.2 x hx
  ·exact hf.2 fs[i] (List.getElem_mem hi)
 ·have hget : ∀ j, (fs.set i { fs[i] with V := z })[j]? = if i = j then some { fs[i] with V := z } else fs[j]? := fun j => by
   rw [List.getElem?_set]
   by_cases e : i = j
   ·subst e; rw [if_pos rfl, if_pos rfl, if_pos hi]
   ·rw [if_neg e, if_neg e]
  refine ⟨by rw [List.length_set]; exact h.val, h.ge, ?_, fun j x hx => ?_, fun a b ha hb => h.apart a b (by rw [List.length_set] at ha; exact ha) (by rw [List.length_set] at hb; exact hb)⟩
  ·rw [List.length_set]
   have := h.row.set1 (i := i) (o := 2) (by omega) (by omega) (by unfold wideF; split <;> rfl) (vI z)
   refine this.congr (fun j _ => ?_)
   unfold wideF
   rw [hget j]
   by_cases e : i = j
   ·subst e; rw [at1_self, if_pos rfl, List.getElem?_eq_getElem hi]; rfl
   ·rw [at1_ne _ _ (Ne.symm e), if_neg e]
  ·rw [hget j] at hx
   by_cases e : i = j
   ·subst e
    rw [if_pos rfl] at hx
    cases hx
    exact (h.code i fs[i] (List.getElem?_eq_getElem hi)).at h.row f
   ·rw [if_neg e] at hx
    exact (h.code j x hx).at h.row f
set_option maxRecDepth 100000
set_option maxHeartbeats 4000000
theorem WF.blk {w : World} {B : Nat} {v : Value} {fs : List PF} {g : Nat} {cv : Nat → Value} (h : WF w B v fs g cv) {i : Nat} (hi : i < fs.length) : ∃ gc, cv i = .slice (some ⟨gc, 0, none⟩) fs[i].code.length (fs[i].code.length + 64) ∧ gc < w.heap.size ∧ B ≤ gc := by
 obtain ⟨g', ps, ev, h1, h2, -⟩ := h.code i fs[i] (List.getElem?_eq_getElem hi)
 exact ⟨g', ev, h2.lt, h1⟩
theorem WF.cells {w : World} {B : Nat} {v : Value} {fs : List PF} {g : Nat} {cv : Nat → Value} (h : WF w B v fs g cv) {i k : Nat} (hi : i < fs.length) (hk : k < fs[i].code.length) {gc : Nat} (hgc : (cv i).ownBlock = some gc) :
 w.cell? ⟨gc, k * 7, none⟩ = some (vI fs[i].code[k].op) ∧ w.cell? ⟨gc, k * 7 + 4, none⟩ = some (vI fs[i].code[k].n) ∧ ∀ q, w.frozen? ⟨gc, q, none⟩ = false := by
 obtain ⟨g', ps, ev, h1, h2, -⟩ := h.code i fs[i] (List.getElem?_eq_getElem hi)
 have eg : g' = gc := by rw [ev] at hgc; cases hgc; rfl
 subst eg
 have pc := fun o (ho : o < 7) => h2.cell (i := k) (o := o) (by omega) ho
 have e1 : wideC fs[i].code ps k = iR fs[i].code[k] (ps k) := by unfold wideC; rw [List.getElem?_eq_getElem hk]
 rw [e1] at pc
 exact ⟨pc 0 (by omega), pc 4 (by omega), fun q => h2.frozen q⟩
theorem turned_any (G : Int) (v : Value) (fs : List PF) (B g : Nat) (cv : Nat → Value) (N : Nat) (w : World) (hl : WF w B v fs g cv) (hn : FineP fs) (hg : g < N) (hcN : ∀ i, i < fs.length → ∀ k, (cv i).ownBlock = some k → k < N) : Calls Tryd.prog 11 #[.agg #[vI G, v]] w fun e w' => e = .returned (.tuple #[]) ∧ Fr (fun k => B ≤ k ∧ k < N) w w' ∧ ∃ fs', FineP fs' ∧ WF w' B v fs' g cv := by
 have hv := hl.val
 subst hv
 obtain ⟨n, hnl⟩ : ∃ n, n = fs.length := ⟨_, rfl⟩
 have hn1 := hn.1
 have HN0 : Hd (n = fs.length) := hnl
 have b1 : (w.alloc (.cells #[vI G, .slice (some ⟨g, 0, none⟩) fs.length (fs.length + 64)] 24)).heap[w.heap.size]? = some (.cells #[vI G, .slice (some ⟨g, 0, none⟩) fs.length (fs.length + 64)] 24) := heap_new w _
 have HL : Hd (WF (w.alloc (.cells #[vI G, .slice (some ⟨g, 0, none⟩) fs.length (fs.length + 64)] 24)) B (.slice (some ⟨g, 0, none⟩) fs.length (fs.length + 64)) fs g cv) := hl.stay (Fr.alloc (Fr.refl _ w) _)
 have HF : Hd (Fr (fun k => B ≤ k ∧ k < N) w (w.alloc (.cells #[vI G, .slice (some ⟨g, 0, none⟩) fs.length (fs.length + 64)] 24))) := Fr.alloc (Fr.refl _ w) _
 have HG : Hd (g < w.heap.size) := hl.row.lt
 have HGC : Hd (∀ i, i < n → ∃ gc m, cv i = .slice (some ⟨gc, 0, none⟩) m (m + 64) ∧ fs[i]?.map (fun f : PF => f.code.length) = some m ∧ gc < w.heap.size ∧ (B ≤ gc ∧ gc < N)) := fun i hi => by
  obtain ⟨gc, e, h1, h2⟩ := hl.blk (i := i) (by omega)
  exact ⟨gc, _, e, by rw [List.getElem?_eq_getElem (by omega)]; rfl, h1, h2, hcN i (by omega) gc (by rw [e]; rfl)⟩
 have HFI : Hd (FineP fs) := hn
 have HM : Hd (∀ i m, fs[i]?.map (fun f : PF => f.code.length) = some m → m ≤ 1599289640354) := fun i m hm => by
  rcases Nat.lt_or_ge i fs.length with hi | hi
  ·rw [List.getElem?_eq_getElem hi] at hm
   cases hm
   exact (hn.2 _ (List.getElem_mem hi)).1
  ·rw [List.getElem?_eq_none hi] at hm; cases hm
 have HGE : Hd (B ≤ g ∧ g < N) := ⟨hl.ge, hg⟩
 clear hl hn hcN hg
 rw [← hnl] at b1 HL HF hn1 ⊢
 clear hnl
 have B1 : Hd _ := b1
 obtain ⟨H, hH⟩ : ∃ H, H = w.heap.size := ⟨_, rfl⟩
 have HH : Hd (H = w.heap.size) := hH
 rw [← hH] at B1
 clear b1 hH
 go_enter Tryd.func11, Tryd.ntmps11
 go_upto_region 1 with fail
 rw [← HH.out]
 generalize w.alloc (.cells #[vI G, .slice (some ⟨g, 0, none⟩) n (n + 64)] 24) = wa at *
 go_wp2_with fail
 go_loopw [2] (fun v wr => ∃ (k : Nat) (F : List PF), v = .int .i64 k ∧ k ≤ n ∧ Hd (Like fs F) ∧ Hd (FineP F) ∧ Hd (WF wr B (.slice (some ⟨g, 0, none⟩) n (n + 64)) F g cv) ∧ Hd (wr.heap[H]? = some (.cells #[vI G, .slice (some ⟨g, 0, none⟩) n (n + 64)] 24)) ∧ Hd (Fr (fun k => B ≤ k ∧ k < N) w wr)) (fun v _ => match v with | .int _ q => n - q.toNat | _ => 0)
 case atStart => exact ⟨0, fs, rfl, Nat.zero_le _, Like.refl _, HFI.out, HL.out, B1.out, HF.out⟩
 case round =>
  clear HL HF B1 HFI
  obtain ⟨i, F, rfl, hi, HLK, HFI, HW, B1, HF⟩ := hrel
  have u1 : wr.cell? ⟨H, 1, none⟩ = some (.slice (some ⟨g, 0, none⟩) n (n + 64)) := by rw [cell_of B1.out]; rfl
  by_cases hlt : i < n
  ·obtain ⟨gc, m, ecv, hfm, hgl, hgb⟩ := HGC.out i hlt
   have hm : m ≤ 1599289640354 := HM.out i m hfm
   have HFM : Hd (fs[i]?.map (fun f : PF => f.code.length) = some m) := hfm
   have HGL : Hd (gc < w.heap.size ∧ (B ≤ gc ∧ gc < N)) := ⟨hgl, hgb⟩
   have HCV : Hd (cv i = .slice (some ⟨gc, 0, none⟩) m (m + 64)) := ecv
   have hi0 : (0 : Int) ≤ i := by omega
   have hi1 : (i : Int) < n := by omega
   clear ecv hfm hgl hgb
   go_wp2_with fail
   clear u1
   go_loopw [3] (fun v wr => ∃ (k : Nat) (F : List PF), v = .int .i64 k ∧ k ≤ m ∧ Hd (Like fs F) ∧ Hd (FineP F) ∧ Hd (WF wr B (.slice (some ⟨g, 0, none⟩) n (n + 64)) F g cv) ∧ Hd (wr.heap[H]? = some (.cells #[vI G, .slice (some ⟨g, 0, none⟩) n (n + 64)] 24)) ∧ Hd (Fr (fun k => B ≤ k ∧ k < N) w wr)) (fun v _ => match v with | .int _ q => m - q.toNat | _ => 0)
   case atStart => exact ⟨0, F, rfl, Nat.zero_le _, HLK.out, HFI.out, HW.out, B1.out, HF.out⟩
   case round =>
    clear HLK HFI HW B1 HF
    obtain ⟨k, F, rfl, hk, HLK, HFI, HW, B1, HF⟩ := hrel
    have hiF : i < F.length := by have := HLK.out.1; have := HN0.out; omega
    have u1 : wr.cell? ⟨H, 1, none⟩ = some (.slice (some ⟨g, 0, none⟩) n (n + 64)) := by rw [cell_of B1.out]; rfl
    have u3 : wr.cell? ⟨g, i * 4 + 3, none⟩ = some (.slice (some ⟨gc, 0, none⟩) m (m + 64)) := by
     have := HW.out.row.cell (i := i) (o := 3) (by omega) (by omega)
     rw [this]
     unfold wideF
     rw [List.getElem?_eq_getElem hiF]
     exact congrArg some HCV.out
    by_cases hkt : k < m
    ·have hkF : k < F[i].code.length := by
      have h1 := HLK.out.2 i
      rw [HFM.out, List.getElem?_eq_getElem hiF] at h1
      have h2 : F[i].code.length = m := Option.some.inj h1
      omega
     obtain ⟨c0, c4, cz⟩ := HW.out.cells hiF hkF (gc := gc) (by rw [HCV.out]; rfl)
     have z0 := cz (k * 7)
     have z4 := cz (k * 7 + 4)
     have HS : Hd (∀ (wx : World) (F : List PF), Like fs F → FineP F → WF wx B (.slice (some ⟨g, 0, none⟩) n (n + 64)) F g cv → wx.heap[H]? = some (.cells #[vI G, .slice (some ⟨g, 0, none⟩) n (n + 64)] 24) → Fr (fun k => B ≤ k ∧ k < N) w wx → ∀ (o : Nat) (z : Int), (o = 0 ∨ o = 4) →
      ∃ F', Like fs F' ∧ FineP F' ∧ WF (wx.setCell ⟨gc, k * 7 + o, none⟩ (vI z)) B (.slice (some ⟨g, 0, none⟩) n (n + 64)) F' g cv ∧ (wx.setCell ⟨gc, k * 7 + o, none⟩ (vI z)).heap[H]? = some (.cells #[vI G, .slice (some ⟨g, 0, none⟩) n (n + 64)] 24) ∧ Fr (fun k => B ≤ k ∧ k < N) w (wx.setCell ⟨gc, k * 7 + o, none⟩ (vI z))) := fun wx F hlk hfi hw hb hf o z ho => by
      have hiF : i < F.length := by have := hlk.1; have := HN0.out; omega
      have hkF : k < F[i].code.length := by
       have h1 := hlk.2 i
       rw [HFM.out, List.getElem?_eq_getElem hiF] at h1
       have h2 : F[i].code.length = m := Option.some.inj h1
       omega
      obtain ⟨F', l1, l2, l3⟩ := hw.code1 hiF hkF ho (gc := gc) (by rw [HCV.out]; rfl) z
      refine ⟨F', hlk.trans l1, l2 hfi, l3, ((setCell_fr wx gc (k * 7 + o) (vI z)).block H (heap_lt hb) (fun e => by have := HGL.out; have := HH.out; omega)).trans hb, hf.setCell _ _ (Or.inl HGL.out.2)⟩
     generalize F[i].code[k].op = op at *
     generalize F[i].code[k].n = nn at *
     clear cz
     have hk0 : (0 : Int) ≤ k := by omega
     have hk1 : (k : Int) < m := by omega
     by_cases hop : 0 ≤ op ∧ op < 18
     ·obtain ⟨ho0, ho1⟩ := hop
      go_upto_region 10 with fail
      obtain ⟨F1, l1, l2, l3, l4, l5⟩ := HS.out wr F HLK.out HFI.out HW.out B1.out HF.out 0 (op + 1) (Or.inl rfl)
      have L1 : Hd (Like fs F1) := l1
      have L2 : Hd (FineP F1) := l2
      have L3 : Hd (WF (wr.setCell ⟨gc, k * 7, none⟩ (vI (op + 1))) B (.slice (some ⟨g, 0, none⟩) n (n + 64)) F1 g cv) := l3
      have L4 : Hd ((wr.setCell ⟨gc, k * 7, none⟩ (vI (op + 1))).heap[H]? = some (.cells #[vI G, .slice (some ⟨g, 0, none⟩) n (n + 64)] 24)) := l4
      have L5 : Hd (Fr (fun k => B ≤ k ∧ k < N) w (wr.setCell ⟨gc, k * 7, none⟩ (vI (op + 1)))) := l5
      clear l1 l2 l3 l4 l5 u1 u3 c0 c4 z0 z4 HLK HFI HW B1 HF
      generalize wr.setCell ⟨gc, k * 7, none⟩ (vI (op + 1)) = wx at *
      have hiF1 : i < F1.length := by have := L1.out.1; have := HN0.out; omega
      have hkF1 : k < F1[i].code.length := by
       have h1 := L1.out.2 i
       rw [HFM.out, List.getElem?_eq_getElem hiF1] at h1
       have h2 : F1[i].code.length = m := Option.some.inj h1
       omega
      have u1 : wx.cell? ⟨H, 1, none⟩ = some (.slice (some ⟨g, 0, none⟩) n (n + 64)) := by rw [cell_of L4.out]; rfl
      have u3 : wx.cell? ⟨g, i * 4 + 3, none⟩ = some (.slice (some ⟨gc, 0, none⟩) m (m + 64)) := by
       have := L3.out.row.cell (i := i) (o := 3) (by have := HN0.out; omega) (by omega)
       rw [this]
       unfold wideF
       rw [List.getElem?_eq_getElem hiF1]
       exact congrArg some HCV.out
      obtain ⟨-, c4, cz⟩ := L3.out.cells hiF1 hkF1 (gc := gc) (by rw [HCV.out]; rfl)
      have z4 := cz (k * 7 + 4)
      generalize F1[i].code[k].n = nn at *
      clear cz
      by_cases hod : (i : Int) % 2 = 1
      ·by_cases hnn : nn > 0
       ·go_wp2_with fail
        obtain ⟨F2, l1, l2, l3, l4, l5⟩ := HS.out wx F1 L1.out L2.out L3.out L4.out L5.out 4 _ (Or.inr rfl)
        exact ⟨⟨k + 1, F2, rfl, by omega, l1, l2, l3, l4, l5⟩, by show m - ((k : Int) + 1).toNat < m - (k : Int).toNat; omega⟩
       ·go_wp2_with fail
        exact ⟨⟨k + 1, F1, rfl, by omega, L1, L2, L3, L4, L5⟩, by show m - ((k : Int) + 1).toNat < m - (k : Int).toNat; omega⟩
      ·go_wp2_with fail
       exact ⟨⟨k + 1, F1, rfl, by omega, L1, L2, L3, L4, L5⟩, by show m - ((k : Int) + 1).toNat < m - (k : Int).toNat; omega⟩
     ·by_cases ho0 : 0 ≤ op
      ·have ho1 : ¬ op < 18 := fun h => hop ⟨ho0, h⟩
       clear hop
       go_upto_region 10 with fail
       obtain ⟨F1, L1, L2, L3, L4, L5⟩ : ∃ F1, Hd (Like fs F1) ∧ Hd (FineP F1) ∧ Hd (WF wr B (.slice (some ⟨g, 0, none⟩) n (n + 64)) F1 g cv) ∧ Hd (wr.heap[H]? = some (.cells #[vI G, .slice (some ⟨g, 0, none⟩) n (n + 64)] 24)) ∧ Hd (Fr (fun k => B ≤ k ∧ k < N) w wr) := ⟨F, HLK, HFI, HW, B1, HF⟩
       clear u1 u3 c0 c4 z0 z4 HLK HFI HW B1 HF
       have hiF1 : i < F1.length := by have := L1.out.1; have := HN0.out; omega
       have hkF1 : k < F1[i].code.length := by
        have h1 := L1.out.2 i
        rw [HFM.out, List.getElem?_eq_getElem hiF1] at h1
        have h2 : F1[i].code.length = m := Option.some.inj h1
        omega
       have u1 : wr.cell? ⟨H, 1, none⟩ = some (.slice (some ⟨g, 0, none⟩) n (n + 64)) := by rw [cell_of L4.out]; rfl
       have u3 : wr.cell? ⟨g, i * 4 + 3, none⟩ = some (.slice (some ⟨gc, 0, none⟩) m (m + 64)) := by
        have := L3.out.row.cell (i := i) (o := 3) (by have := HN0.out; omega) (by omega)
        rw [this]
        unfold wideF
        rw [List.getElem?_eq_getElem hiF1]
        exact congrArg some HCV.out
       obtain ⟨-, c4, cz⟩ := L3.out.cells hiF1 hkF1 (gc := gc) (by rw [HCV.out]; rfl)
       have z4 := cz (k * 7 + 4)
       generalize F1[i].code[k].n = nn at *
       clear cz
       by_cases hod : (i : Int) % 2 = 1
       ·by_cases hnn : nn > 0
        ·go_wp2_with fail
         obtain ⟨F2, l1, l2, l3, l4, l5⟩ := HS.out wr F1 L1.out L2.out L3.out L4.out L5.out 4 _ (Or.inr rfl)
         exact ⟨⟨k + 1, F2, rfl, by omega, l1, l2, l3, l4, l5⟩, by show m - ((k : Int) + 1).toNat < m - (k : Int).toNat; omega⟩
        ·go_wp2_with fail
         exact ⟨⟨k + 1, F1, rfl, by omega, L1, L2, L3, L4, L5⟩, by show m - ((k : Int) + 1).toNat < m - (k : Int).toNat; omega⟩
       ·go_wp2_with fail
        exact ⟨⟨k + 1, F1, rfl, by omega, L1, L2, L3, L4, L5⟩, by show m - ((k : Int) + 1).toNat < m - (k : Int).toNat; omega⟩
      ·clear hop
       go_upto_region 10 with fail
       obtain ⟨F1, L1, L2, L3, L4, L5⟩ : ∃ F1, Hd (Like fs F1) ∧ Hd (FineP F1) ∧ Hd (WF wr B (.slice (some ⟨g, 0, none⟩) n (n + 64)) F1 g cv) ∧ Hd (wr.heap[H]? = some (.cells #[vI G, .slice (some ⟨g, 0, none⟩) n (n + 64)] 24)) ∧ Hd (Fr (fun k => B ≤ k ∧ k < N) w wr) := ⟨F, HLK, HFI, HW, B1, HF⟩
       clear u1 u3 c0 c4 z0 z4 HLK HFI HW B1 HF
       have hiF1 : i < F1.length := by have := L1.out.1; have := HN0.out; omega
       have hkF1 : k < F1[i].code.length := by
        have h1 := L1.out.2 i
        rw [HFM.out, List.getElem?_eq_getElem hiF1] at h1
        have h2 : F1[i].code.length = m := Option.some.inj h1
        omega
       have u1 : wr.cell? ⟨H, 1, none⟩ = some (.slice (some ⟨g, 0, none⟩) n (n + 64)) := by rw [cell_of L4.out]; rfl
       have u3 : wr.cell? ⟨g, i * 4 + 3, none⟩ = some (.slice (some ⟨gc, 0, none⟩) m (m + 64)) := by
        have := L3.out.row.cell (i := i) (o := 3) (by have := HN0.out; omega) (by omega)
        rw [this]
        unfold wideF
        rw [List.getElem?_eq_getElem hiF1]
        exact congrArg some HCV.out
       obtain ⟨-, c4, cz⟩ := L3.out.cells hiF1 hkF1 (gc := gc) (by rw [HCV.out]; rfl)
       have z4 := cz (k * 7 + 4)
       generalize F1[i].code[k].n = nn at *
       clear cz
       by_cases hod : (i : Int) % 2 = 1
       ·by_cases hnn : nn > 0
        ·go_wp2_with fail
         obtain ⟨F2, l1, l2, l3, l4, l5⟩ := HS.out wr F1 L1.out L2.out L3.out L4.out L5.out 4 _ (Or.inr rfl)
         exact ⟨⟨k + 1, F2, rfl, by omega, l1, l2, l3, l4, l5⟩, by show m - ((k : Int) + 1).toNat < m - (k : Int).toNat; omega⟩
        ·go_wp2_with fail
         exact ⟨⟨k + 1, F1, rfl, by omega, L1, L2, L3, L4, L5⟩, by show m - ((k : Int) + 1).toNat < m - (k : Int).toNat; omega⟩
       ·go_wp2_with fail
        exact ⟨⟨k + 1, F1, rfl, by omega, L1, L2, L3, L4, L5⟩, by show m - ((k : Int) + 1).toNat < m - (k : Int).toNat; omega⟩
    ·have hke : k = m := by omega
     subst hke
     have u2 : wr.cell? ⟨g, i * 4 + 2, none⟩ = some (vI F[i].V) := by
      have := HW.out.row.cell (i := i) (o := 2) (by omega) (by omega)
      rw [this]
      unfold wideF
      rw [List.getElem?_eq_getElem hiF]
      rfl
     have z2 : wr.frozen? ⟨g, i * 4 + 2, none⟩ = false := HW.out.row.frozen _
     generalize F[i].V = vv at *
     by_cases hod : (i : Int) % 3 = 2
     ·by_cases hnn : vv > 0
      ·go_wp2_with fail
       obtain ⟨F2, l1, l2, l3⟩ := HW.out.vars1 hiF (_ : Int)
       exact ⟨⟨i + 1, F2, rfl, by omega, HLK.out.trans l1, l2 HFI.out, l3, ((setCell_fr wr g (i * 4 + 2) _).block H (heap_lt B1.out) (fun e => by have := HG.out; have := HH.out; omega)).trans B1.out, HF.out.setCell _ _ (Or.inl HGE.out)⟩, by show n - ((i : Int) + 1).toNat < n - (i : Int).toNat; omega⟩
      ·go_wp2_with fail
       exact ⟨⟨i + 1, F, rfl, by omega, HLK, HFI, HW, B1, HF⟩, by show n - ((i : Int) + 1).toNat < n - (i : Int).toNat; omega⟩
     ·go_wp2_with fail
      exact ⟨⟨i + 1, F, rfl, by omega, HLK, HFI, HW, B1, HF⟩, by show n - ((i : Int) + 1).toNat < n - (i : Int).toNat; omega⟩
  ·have hie : i = n := by omega
   subst hie
   go_wp2_with fail
   go_end0
   exact ⟨rfl, HF.out, F, HFI.out, HW.out⟩
end Go.Proofs.YtingenonbkencabDoor
