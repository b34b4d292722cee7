import Derived.Test.YtingenonbkencaaDoorQLaJ
import Derived.Test.YtingenonbkencaaDoorQN4J
set_option linter.unusedVariables false
set_option linter.unusedSimpArgs false
namespace Go.Proofs.YtingenonbkencaaDoor
open Go.RowKit (wrap32 wrap64)
set_option maxRecDepth 100000
set_option maxHeartbeats 4000000
abbrev iR (c : PI) (p : Value × Value) : List Value := [vI c.op, vI c.r, vI c.s, vI c.t, vI c.n, p.1, p.2]
abbrev markC : List Value := [vI (-78), vI 0, vI 0, vI 0, vI 0, .slice none 0 0, .slice none 0 0]
abbrev zeroC : List Value := [vI 0, vI 0, vI 0, vI 0, vI 0, .slice none 0 0, .slice none 0 0]
def wideC (cs : List PI) (ps : Nat → Value × Value) (i : Nat) : List Value := match cs[i]? with | some c => iR c (ps i) | none => markC
def CA (w : World) (v : Value) (cs : List PI) : Prop :=
  ∃ a cp, v = .slice a cs.length cp ∧ (cs ≠ [] → ∃ k o, a = some ⟨k, o, none⟩ ∧ k < w.heap.size ∧ ∀ j (h : j < cs.length), ∃ av rv,
    w.cell? ⟨k, o + j * 7, none⟩ = some (vI cs[j].op) ∧ w.cell? ⟨k, o + j * 7 + 1, none⟩ = some (vI cs[j].r) ∧ w.cell? ⟨k, o + j * 7 + 2, none⟩ = some (vI cs[j].s) ∧ w.cell? ⟨k, o + j * 7 + 3, none⟩ = some (vI cs[j].t) ∧ w.cell? ⟨k, o + j * 7 + 4, none⟩ = some (vI cs[j].n) ∧
    w.cell? ⟨k, o + j * 7 + 5, none⟩ = some av ∧ w.cell? ⟨k, o + j * 7 + 6, none⟩ = some rv ∧ IA w av cs[j].args ∧ IA w rv cs[j].rets)
theorem CA.stay {w w' : World} {v : Value} {cs : List PI} (h : CA w v cs) (f : Fr (fun _ => False) w w') : CA w' v cs := by
  obtain ⟨a, cp, rfl, h⟩ := h
  refine ⟨a, cp, rfl, fun hne => ?_⟩
  obtain ⟨k, o, rfl, hk, hc⟩ := h hne
  refine ⟨k, o, rfl, Nat.lt_of_lt_of_le hk f.size, fun j hj => ?_⟩
  obtain ⟨av, rv, h1, h2, h3, h4, h5, h6, h7, h8, h9⟩ := hc j hj
  have g : ∀ o, w'.cell? ⟨k, o, none⟩ = w.cell? ⟨k, o, none⟩ := fun o => f.cell hk (fun h => h)
  exact ⟨av, rv, (g _).trans h1, (g _).trans h2, (g _).trans h3, (g _).trans h4, (g _).trans h5, (g _).trans h6, (g _).trans h7, h8.stay f, h9.stay f⟩
def FineC (cs : List PI) : Prop := cs.length ≤ 1599289640354 ∧ ∀ c ∈ cs, c.args.length ≤ 17592186043904 ∧ c.rets.length ≤ 17592186043904
def WC (w : World) (B : Nat) (v : Value) (cs : List PI) : Prop :=
  ∃ g ps, v = .slice (some ⟨g, 0, none⟩) cs.length (cs.length + 64) ∧ B ≤ g ∧ Rws w 71 7 g (cs.length + 64) (wideC cs ps) ∧ ∀ i c, cs[i]? = some c → WI w B (ps i).1 c.args ∧ WI w B (ps i).2 c.rets
theorem WI.ne {w : World} {B g m : Nat} {t sz : Nat} {R : Nat → List Value} {v : Value} {l : List Int} (h : WI w B v l) (hR : Rws w t sz g m R) (ht : t ≠ 3) : ∀ k, v.ownBlock = some k → k ≠ g := by
  obtain ⟨g', rfl, -, cs', h', -⟩ := h
  obtain ⟨cs, h2, -⟩ := hR
  intro k e1 e2
  cases e1
  subst e2
  rw [h'] at h2
  cases h2
  exact ht rfl
theorem wideC_len (cs : List PI) (ps : Nat → Value × Value) (i : Nat) : (wideC cs ps i).length = 7 := by
  unfold wideC; split <;> rfl
theorem under65 : Tryd.prog.underlying 65 = some (.slice 71) := by kernel_rfl
theorem make65 (n : Nat) (hn : n ≤ 1700000000000) (w : World) : (Instr.makeSlice 65 (.int .i64 n) (.int .i64 n)).run Tryd.prog w = .ok (.slice (some ⟨w.heap.size, 0, none⟩) n n) (w.alloc (.cells (madeCells zeroC.toArray (n * 7)) 71)) := by
  rw [run_make_of 65 71 (.agg zeroC.toArray) 7 88 under65 (by kernel_rfl) (by kernel_rfl) (by kernel_rfl) n (by omega) (by omega) w]
  rfl
theorem Rws.made7 (w : World) (m : Nat) : Rws (w.alloc (.cells (madeCells zeroC.toArray (m * 7)) 71)) 71 7 w.heap.size m (fun _ => zeroC) :=
  ⟨_, heap_new w _, by simp [madeCells], fun i o hi ho => by
    have hlt : i * 7 + o < m * 7 := by omega
    have e : (i * 7 + o) % 7 = o := by omega
    unfold madeCells
    simp only [Array.getElem?_map, Array.getElem?_range, hlt, if_true, Option.map_some]
    show some (zeroC.toArray[(i * 7 + o) % 7]!) = _
    rw [e]
    rcases (show o = 0 ∨ o = 1 ∨ o = 2 ∨ o = 3 ∨ o = 4 ∨ o = 5 ∨ o = 6 by omega) with rfl | rfl | rfl | rfl | rfl | rfl | rfl <;> rfl⟩
theorem list7 {α : Type} : ∀ (l : List α), l.length = 7 → ∃ a b c d e f g, l = [a, b, c, d, e, f, g]
  | [a, b, c, d, e, f, g], _ => ⟨a, b, c, d, e, f, g, rfl⟩
def sev7 (w : World) (g q : Nat) (x : List Value) : World :=
  ((((((w.setCell ⟨g, q, none⟩ (x.getD 0 undef)).setCell ⟨g, q + 1, none⟩ (x.getD 1 undef)).setCell ⟨g, q + 2, none⟩ (x.getD 2 undef)).setCell ⟨g, q + 3, none⟩ (x.getD 3 undef)).setCell ⟨g, q + 4, none⟩ (x.getD 4 undef)).setCell ⟨g, q + 5, none⟩ (x.getD 5 undef)).setCell ⟨g, q + 6, none⟩ (x.getD 6 undef)
theorem Rws.set7 {w : World} {t g m : Nat} {R : Nat → List Value} (h : Rws w t 7 g m R) {i : Nat} (hi : i < m) (hl : (R i).length = 7) (x : List Value) (hx : x.length = 7) : Rws (sev7 w g (i * 7) x) t 7 g m (at1 R i x) := by
  have h0 := h.set1 (o := 0) hi (by omega) hl (x.getD 0 undef)
  have h1 := h0.set1 (i := i) (o := 1) hi (by omega) (by rw [at1_self]; simpa using hl) (x.getD 1 undef)
  have h2 := h1.set1 (i := i) (o := 2) hi (by omega) (by rw [at1_self, at1_self]; simpa using hl) (x.getD 2 undef)
  have h3 := h2.set1 (i := i) (o := 3) hi (by omega) (by simp only [at1_self, List.length_set]; exact hl) (x.getD 3 undef)
  have h4 := h3.set1 (i := i) (o := 4) hi (by omega) (by simp only [at1_self, List.length_set]; exact hl) (x.getD 4 undef)
  have h5 := h4.set1 (i := i) (o := 5) hi (by omega) (by simp only [at1_self, List.length_set]; exact hl) (x.getD 5 undef)
  have h6 := h5.set1 (i := i) (o := 6) hi (by omega) (by simp only [at1_self, List.length_set]; exact hl) (x.getD 6 undef)
  simp only [at1_at1, at1_self, Nat.add_zero] at h6
  obtain ⟨a, b, c, d, e, f, gg, hR⟩ := list7 _ hl
  obtain ⟨x0, x1, x2, x3, x4, x5, x6, rfl⟩ := list7 _ hx
  rw [hR] at h6
  simp only [List.set_cons_zero, List.set_cons_succ, List.getD_cons_zero, List.getD_cons_succ] at h6
  unfold sev7
  simp only [List.getD_cons_zero, List.getD_cons_succ]
  exact h6
theorem sev7_fr (w : World) (g q : Nat) (x : List Value) : Fr (fun k => k = g) w (sev7 w g q x) := by
  unfold sev7
  refine Fr.setCell (S := fun k => k = g) ?_ _ _ (Or.inl rfl)
  refine Fr.setCell (S := fun k => k = g) ?_ _ _ (Or.inl rfl)
  refine Fr.setCell (S := fun k => k = g) ?_ _ _ (Or.inl rfl)
  refine Fr.setCell (S := fun k => k = g) ?_ _ _ (Or.inl rfl)
  refine Fr.setCell (S := fun k => k = g) ?_ _ _ (Or.inl rfl)
  refine Fr.setCell (S := fun k => k = g) ?_ _ _ (Or.inl rfl)
  refine Fr.setCell (S := fun k => k = g) ?_ _ _ (Or.inl rfl)
  exact Fr.refl _ _
theorem wideCode_any (v : Value) (cs : List PI) (w : World) (hl : CA w v cs) (hn : FineC cs) : Calls Tryd.prog 75 #[v] w fun e w' => ∃ v', e = .returned v' ∧ WC w' w.heap.size v' cs ∧ Fr (fun _ => False) w w' := by
  obtain ⟨a, c, rfl, h0⟩ := hl
  have H0 : Hd _ := h0
  clear h0
  have HFI : Hd (FineC cs) := hn
  have hn := hn.1
  obtain ⟨n, hnl⟩ : ∃ n, n = cs.length := ⟨_, rfl⟩
  have HN : Hd (n = cs.length) := hnl
  rw [← hnl] at hn ⊢
  clear hnl
  have hmk := make65 (n + 64) (by omega) w
  have hcast : ((n + 64 : Nat) : Int) = (n : Int) + 64 := by omega
  rw [hcast] at hmk
  have HR : Hd (Rws (w.alloc (.cells (madeCells zeroC.toArray ((n + 64) * 7)) 71)) 71 7 w.heap.size (n + 64) (fun i => if i < 0 then wideC cs (fun _ => (undef, undef)) i else zeroC)) := (Rws.made7 w (n + 64)).congr (fun i _ => by simp)
  have HF : Hd (Fr (fun _ => False) w (w.alloc (.cells (madeCells zeroC.toArray ((n + 64) * 7)) 71))) := Fr.alloc (Fr.refl _ w) _
  obtain ⟨g, hg⟩ : ∃ g, g = w.heap.size := ⟨_, rfl⟩
  have HG : Hd (g = w.heap.size) := hg
  rw [← hg] at hmk HR
  clear hg
  go_enter Tryd.func75, Tryd.ntmps75
  go_wp2_with fail
  go_loopw [4] (fun v wr => ∃ (k : Nat) (ps : Nat → Value × Value), v = .int .i64 k ∧ k ≤ n + 64 ∧ Hd (Rws wr 71 7 g (n + 64) (fun i => if i < k then wideC cs ps i else zeroC)) ∧ Hd (∀ i c, i < k → cs[i]? = some c → WI wr w.heap.size (ps i).1 c.args ∧ WI wr w.heap.size (ps i).2 c.rets) ∧ Hd (Fr (fun _ => False) w wr)) (fun v _ => match v with | .int _ q => n + 64 - q.toNat | _ => 0)
  case atStart => exact ⟨0, fun _ => (undef, undef), rfl, Nat.zero_le _, HR.out, fun i c hi => absurd hi (Nat.not_lt_zero _), HF.out⟩
  case round =>
    clear HR HF
    obtain ⟨k, ps, rfl, hk, HR, HW, HF⟩ := hrel
    by_cases hlt : k < n + 64
    · have hk0 : (0 : Int) ≤ k := by omega
      have hk1 : (k : Int) < (n : Int) + 64 := by omega
      have pc := fun o (ho : o < 7) => HR.out.cell (i := k) (o := o) hlt ho
      rw [if_neg (Nat.lt_irrefl k)] at pc
      have p0 := pc 0 (by omega)
      have p1 := pc 1 (by omega)
      have p2 := pc 2 (by omega)
      have p3 := pc 3 (by omega)
      have p4 := pc 4 (by omega)
      have p5 := pc 5 (by omega)
      have p6 := pc 6 (by omega)
      have z0 := HR.out.frozen (k * 7)
      have z1 := HR.out.frozen (k * 7 + 1)
      have z2 := HR.out.frozen (k * 7 + 2)
      have z3 := HR.out.frozen (k * 7 + 3)
      have z4 := HR.out.frozen (k * 7 + 4)
      have z5 := HR.out.frozen (k * 7 + 5)
      have z6 := HR.out.frozen (k * 7 + 6)
      simp only [Nat.add_zero, List.getD_cons_zero, List.getD_cons_succ] at p0 p1 p2 p3 p4 p5 p6
      clear pc
      have HR1 : Hd (Rws (sev7 wr g (k * 7) markC) 71 7 g (n + 64) (at1 (fun i => if i < k then wideC cs ps i else zeroC) k markC)) := HR.out.set7 hlt (by rw [if_neg (Nat.lt_irrefl k)]; rfl) markC rfl
      have hFs : Fr (fun j => j = g) wr (sev7 wr g (k * 7) markC) := sev7_fr _ _ _ _
      have HF1 : Hd (Fr (fun _ => False) w (sev7 wr g (k * 7) markC)) := HF.out.then hFs (fun j hj e => by have := HG.out; omega)
      have HW1 : Hd (∀ i c, i < k → cs[i]? = some c → WI (sev7 wr g (k * 7) markC) w.heap.size (ps i).1 c.args ∧ WI (sev7 wr g (k * 7) markC) w.heap.size (ps i).2 c.rets) := fun i c hi hc => ⟨(HW.out i c hi hc).1.fr hFs ((HW.out i c hi hc).1.ne HR.out (by decide)), (HW.out i c hi hc).2.fr hFs ((HW.out i c hi hc).2.ne HR.out (by decide))⟩
      clear hFs
      go_upto_region 6 with fail
      change Code.wp Tryd.prog _ _ _ (sev7 wr g (k * 7) markC)
      clear p0 p1 p2 p3 p4 p5 p6 z0 z1 z2 z3 z4 z5 z6 HR HF HW
      generalize sev7 wr g (k * 7) markC = w1 at *
      by_cases hin : k < n
      · have hk2 : (k : Int) < n := by omega
        have d1 : decide ((k : Int) < n) = true := by simpa using hk2
        have hkc : k < cs.length := by have := HN.out; omega
        obtain ⟨ak, ao, rfl, hak, hcells⟩ := H0.out (by intro e; simp [e] at hkc)
        obtain ⟨av, rv, c0, c1, c2, c3, c4, c5, c6, hav, hrv⟩ := hcells k hkc
        have HC : Hd (cs[k]? = some cs[k]) := List.getElem?_eq_getElem hkc
        have HCF : Hd (cs[k].args.length ≤ 17592186043904 ∧ cs[k].rets.length ≤ 17592186043904) := HFI.out.2 _ (List.getElem_mem hkc)
        generalize cs[k] = ci at *
        have cl := fun (wx : World) (f : Fr (fun _ => False) w wx) (o : Nat) => f.cell (o := o) hak (fun e => e)
        have q0 := (cl w1 HF1.out _).trans c0
        have q1 := (cl w1 HF1.out _).trans c1
        have q2 := (cl w1 HF1.out _).trans c2
        have q3 := (cl w1 HF1.out _).trans c3
        have q4 := (cl w1 HF1.out _).trans c4
        have q5 := (cl w1 HF1.out _).trans c5
        have q6 := (cl w1 HF1.out _).trans c6
        have HCL : Hd _ := cl
        have HC5 : Hd _ := c5
        have HC6 : Hd _ := c6
        have HAV : Hd (IA w av ci.args) := hav
        have HRV : Hd (IA w rv ci.rets) := hrv
        obtain ⟨aa, ac, rfl, -⟩ := id hav
        obtain ⟨ra, rc, rfl, -⟩ := id hrv
        clear hcells c0 c1 c2 c3 c4 c5 c6 cl hav hrv
        have pc := fun o (ho : o < 7) => HR1.out.cell (i := k) (o := o) hlt ho
        rw [at1_self] at pc
        have p0 := pc 0 (by omega)
        have p1 := pc 1 (by omega)
        have p2 := pc 2 (by omega)
        have p3 := pc 3 (by omega)
        have p4 := pc 4 (by omega)
        have p5 := pc 5 (by omega)
        have p6 := pc 6 (by omega)
        simp only [Nat.add_zero, List.getD_cons_zero, List.getD_cons_succ] at p0 p1 p2 p3 p4 p5 p6
        have z0 := HR1.out.frozen (k * 7)
        have z1 := HR1.out.frozen (k * 7 + 1)
        have z2 := HR1.out.frozen (k * 7 + 2)
        have z3 := HR1.out.frozen (k * 7 + 3)
        have z4 := HR1.out.frozen (k * 7 + 4)
        have z5 := HR1.out.frozen (k * 7 + 5)
        have z6 := HR1.out.frozen (k * 7 + 6)
        clear pc
        have HR2 : Hd (Rws (sev7 w1 g (k * 7) (iR ci (.slice aa ci.args.length ac, .slice ra ci.rets.length rc))) 71 7 g (n + 64) (at1 (fun i => if i < k then wideC cs ps i else zeroC) k (iR ci (.slice aa ci.args.length ac, .slice ra ci.rets.length rc)))) := by
          have := HR1.out.set7 (i := k) hlt (by rw [at1_self]; rfl) (iR ci (.slice aa ci.args.length ac, .slice ra ci.rets.length rc)) rfl
          rw [at1_at1] at this
          exact this
        have hFs : Fr (fun j => j = g) w1 (sev7 w1 g (k * 7) (iR ci (.slice aa ci.args.length ac, .slice ra ci.rets.length rc))) := sev7_fr _ _ _ _
        have HF2 : Hd (Fr (fun _ => False) w (sev7 w1 g (k * 7) (iR ci (.slice aa ci.args.length ac, .slice ra ci.rets.length rc)))) := HF1.out.then hFs (fun j hj e => by have := HG.out; omega)
        have HW2 : Hd (∀ i c, i < k → cs[i]? = some c → WI (sev7 w1 g (k * 7) (iR ci (.slice aa ci.args.length ac, .slice ra ci.rets.length rc))) w.heap.size (ps i).1 c.args ∧ WI (sev7 w1 g (k * 7) (iR ci (.slice aa ci.args.length ac, .slice ra ci.rets.length rc))) w.heap.size (ps i).2 c.rets) := fun i c hi hc => ⟨(HW1.out i c hi hc).1.fr hFs ((HW1.out i c hi hc).1.ne HR1.out (by decide)), (HW1.out i c hi hc).2.fr hFs ((HW1.out i c hi hc).2.ne HR1.out (by decide))⟩
        clear hFs
        go_upto_region 8 with fail
        change Code.wp Tryd.prog _ _ _ (sev7 w1 g (k * 7) (iR ci (.slice aa ci.args.length ac, .slice ra ci.rets.length rc)))
        clear p0 p1 p2 p3 p4 p5 p6 z0 z1 z2 z3 z4 z5 z6 q0 q1 q2 q3 q4 q5 q6 HR1 HF1 HW1
        generalize sev7 w1 g (k * 7) (iR ci (.slice aa ci.args.length ac, .slice ra ci.rets.length rc)) = w2 at *
        have q5 := (HCL.out w2 HF2.out _).trans HC5.out
        go_wp2_with fail
        refine (show Calls Tryd.prog 98 #[.slice aa ci.args.length ac] w2 _ from wideInts_any _ ci.args w2 (HAV.out.stay HF2.out) (by have := HCF.out; omega)).mono ?_
        rintro e w3 ⟨v3, rfl, hv3, hF3⟩
        have HR3 : Hd (Rws w3 71 7 g (n + 64) (at1 (fun i => if i < k then wideC cs ps i else zeroC) k (iR ci (.slice aa ci.args.length ac, .slice ra ci.rets.length rc)))) := HR2.out.fr hF3 (fun e => e)
        have HV3 : Hd (WI w3 w.heap.size v3 ci.args) := hv3.mono HF2.out.size
        have HF3 : Hd (Fr (fun _ => False) w w3) := HF2.out.trans hF3
        have HW3 : Hd (∀ i c, i < k → cs[i]? = some c → WI w3 w.heap.size (ps i).1 c.args ∧ WI w3 w.heap.size (ps i).2 c.rets) := fun i c hi hc => ⟨(HW2.out i c hi hc).1.fr hF3 (fun _ _ e => e), (HW2.out i c hi hc).2.fr hF3 (fun _ _ e => e)⟩
        obtain ⟨g3, e3, -⟩ := id hv3
        subst e3
        clear hv3 hF3 HR2 HF2 HW2 q5
        have p5 := HR3.out.cell (i := k) (o := 5) hlt (by omega)
        rw [at1_self] at p5
        simp only [List.getD_cons_zero, List.getD_cons_succ] at p5
        have z5 := HR3.out.frozen (k * 7 + 5)
        have HR4 : Hd (Rws (w3.setCell ⟨g, k * 7 + 5, none⟩ (.slice (some ⟨g3, 0, none⟩) ci.args.length (ci.args.length + 64))) 71 7 g (n + 64) (at1 (fun i => if i < k then wideC cs ps i else zeroC) k (iR ci (.slice (some ⟨g3, 0, none⟩) ci.args.length (ci.args.length + 64), .slice ra ci.rets.length rc)))) := by
          have := HR3.out.set1 (i := k) (o := 5) hlt (by omega) (by rw [at1_self]; rfl) (.slice (some ⟨g3, 0, none⟩) ci.args.length (ci.args.length + 64))
          rw [at1_self, at1_at1] at this
          exact this
        have hFs := setCell_fr w3 g (k * 7 + 5) (.slice (some ⟨g3, 0, none⟩) ci.args.length (ci.args.length + 64))
        have HF4 : Hd (Fr (fun _ => False) w (w3.setCell ⟨g, k * 7 + 5, none⟩ (.slice (some ⟨g3, 0, none⟩) ci.args.length (ci.args.length + 64)))) := HF3.out.then hFs (fun j hj e => by have := HG.out; omega)
        have HV4 : Hd (WI (w3.setCell ⟨g, k * 7 + 5, none⟩ (.slice (some ⟨g3, 0, none⟩) ci.args.length (ci.args.length + 64))) w.heap.size (.slice (some ⟨g3, 0, none⟩) ci.args.length (ci.args.length + 64)) ci.args) := HV3.out.fr hFs (HV3.out.ne HR3.out (by decide))
        have HW4 : Hd (∀ i c, i < k → cs[i]? = some c → WI (w3.setCell ⟨g, k * 7 + 5, none⟩ (.slice (some ⟨g3, 0, none⟩) ci.args.length (ci.args.length + 64))) w.heap.size (ps i).1 c.args ∧ WI (w3.setCell ⟨g, k * 7 + 5, none⟩ (.slice (some ⟨g3, 0, none⟩) ci.args.length (ci.args.length + 64))) w.heap.size (ps i).2 c.rets) := fun i c hi hc => ⟨(HW3.out i c hi hc).1.fr hFs ((HW3.out i c hi hc).1.ne HR3.out (by decide)), (HW3.out i c hi hc).2.fr hFs ((HW3.out i c hi hc).2.ne HR3.out (by decide))⟩
        clear hFs HR3 HF3 HW3 HV3
        go_upto_region 9 with fail
        clear p5 z5
        generalize w3.setCell ⟨g, k * 7 + 5, none⟩ (.slice (some ⟨g3, 0, none⟩) ci.args.length (ci.args.length + 64)) = w4 at *
        have q6 := (HCL.out w4 HF4.out _).trans HC6.out
        go_wp2_with fail
        refine (show Calls Tryd.prog 98 #[.slice ra ci.rets.length rc] w4 _ from wideInts_any _ ci.rets w4 (HRV.out.stay HF4.out) (by have := HCF.out; omega)).mono ?_
        rintro e w5 ⟨v5, rfl, hv5, hF5⟩
        have HR5 : Hd (Rws w5 71 7 g (n + 64) (at1 (fun i => if i < k then wideC cs ps i else zeroC) k (iR ci (.slice (some ⟨g3, 0, none⟩) ci.args.length (ci.args.length + 64), .slice ra ci.rets.length rc)))) := HR4.out.fr hF5 (fun e => e)
        have HV5 : Hd (WI w5 w.heap.size v5 ci.rets) := hv5.mono HF4.out.size
        have HU5 : Hd (WI w5 w.heap.size (.slice (some ⟨g3, 0, none⟩) ci.args.length (ci.args.length + 64)) ci.args) := HV4.out.fr hF5 (fun _ _ e => e)
        have HF5 : Hd (Fr (fun _ => False) w w5) := HF4.out.trans hF5
        have HW5 : Hd (∀ i c, i < k → cs[i]? = some c → WI w5 w.heap.size (ps i).1 c.args ∧ WI w5 w.heap.size (ps i).2 c.rets) := fun i c hi hc => ⟨(HW4.out i c hi hc).1.fr hF5 (fun _ _ e => e), (HW4.out i c hi hc).2.fr hF5 (fun _ _ e => e)⟩
        obtain ⟨g5, e5, -⟩ := id hv5
        subst e5
        clear hv5 hF5 HR4 HF4 HW4 HV4 q6
        have p6 := HR5.out.cell (i := k) (o := 6) hlt (by omega)
        rw [at1_self] at p6
        simp only [List.getD_cons_zero, List.getD_cons_succ] at p6
        have z6 := HR5.out.frozen (k * 7 + 6)
        have hFs := setCell_fr w5 g (k * 7 + 6) (.slice (some ⟨g5, 0, none⟩) ci.rets.length (ci.rets.length + 64))
        have HR6 : Hd (Rws (w5.setCell ⟨g, k * 7 + 6, none⟩ (.slice (some ⟨g5, 0, none⟩) ci.rets.length (ci.rets.length + 64))) 71 7 g (n + 64) (fun i => if i < k + 1 then wideC cs (at1 ps k (.slice (some ⟨g3, 0, none⟩) ci.args.length (ci.args.length + 64), .slice (some ⟨g5, 0, none⟩) ci.rets.length (ci.rets.length + 64))) i else zeroC)) := by
          have := HR5.out.set1 (i := k) (o := 6) hlt (by omega) (by rw [at1_self]; rfl) (.slice (some ⟨g5, 0, none⟩) ci.rets.length (ci.rets.length + 64))
          rw [at1_self, at1_at1] at this
          refine this.congr (fun i _ => ?_)
          by_cases e : i = k
          · subst e
            rw [at1_self, if_pos (by omega)]
            unfold wideC
            rw [HC.out, at1_self]
            rfl
          · rw [at1_ne _ _ e]
            by_cases hi : i < k
            · rw [if_pos hi, if_pos (by omega)]
              unfold wideC
              rw [at1_ne _ _ e]
            · rw [if_neg hi, if_neg (by omega)]
        have HF6 : Hd (Fr (fun _ => False) w (w5.setCell ⟨g, k * 7 + 6, none⟩ (.slice (some ⟨g5, 0, none⟩) ci.rets.length (ci.rets.length + 64)))) := HF5.out.then hFs (fun j hj e => by have := HG.out; omega)
        have HW6 : Hd (∀ i c, i < k + 1 → cs[i]? = some c → WI (w5.setCell ⟨g, k * 7 + 6, none⟩ (.slice (some ⟨g5, 0, none⟩) ci.rets.length (ci.rets.length + 64))) w.heap.size (at1 ps k (.slice (some ⟨g3, 0, none⟩) ci.args.length (ci.args.length + 64), .slice (some ⟨g5, 0, none⟩) ci.rets.length (ci.rets.length + 64)) i).1 c.args ∧ WI (w5.setCell ⟨g, k * 7 + 6, none⟩ (.slice (some ⟨g5, 0, none⟩) ci.rets.length (ci.rets.length + 64))) w.heap.size (at1 ps k (.slice (some ⟨g3, 0, none⟩) ci.args.length (ci.args.length + 64), .slice (some ⟨g5, 0, none⟩) ci.rets.length (ci.rets.length + 64)) i).2 c.rets) := fun i c hi hc => by
          by_cases e : i = k
          · subst e
            rw [HC.out] at hc
            cases hc
            rw [at1_self]
            exact ⟨HU5.out.fr hFs (HU5.out.ne HR5.out (by decide)), HV5.out.fr hFs (HV5.out.ne HR5.out (by decide))⟩
          · rw [at1_ne _ _ e]
            exact ⟨(HW5.out i c (by omega) hc).1.fr hFs ((HW5.out i c (by omega) hc).1.ne HR5.out (by decide)), (HW5.out i c (by omega) hc).2.fr hFs ((HW5.out i c (by omega) hc).2.ne HR5.out (by decide))⟩
        clear hFs HR5 HF5 HW5 HV5 HU5
        go_wp2_with fail
        exact ⟨⟨k + 1, _, by simp, by omega, HR6.out, HW6.out, HF6.out⟩, by simp; omega⟩
      · have d1 : decide ((k : Int) < n) = false := by simp; omega
        have HR2 : Hd (Rws w1 71 7 g (n + 64) (fun i => if i < k + 1 then wideC cs ps i else zeroC)) := by
          refine HR1.out.congr (fun i _ => ?_)
          by_cases e : i = k
          · subst e; rw [at1_self, if_pos (by omega)]; unfold wideC; rw [List.getElem?_eq_none (by have := HN.out; omega)]
          · rw [at1_ne _ _ e]
            by_cases hi : i < k
            · rw [if_pos hi, if_pos (by omega)]
            · rw [if_neg hi, if_neg (by omega)]
        have HW2 : Hd (∀ i c, i < k + 1 → cs[i]? = some c → WI w1 w.heap.size (ps i).1 c.args ∧ WI w1 w.heap.size (ps i).2 c.rets) := fun i c hi hc => HW1.out i c (by have := (List.getElem?_eq_some_iff.1 hc).1; have := HN.out; omega) hc
        clear HR1 HW1
        go_wp2_with fail
        exact ⟨⟨k + 1, ps, by simp, by omega, HR2.out, HW2.out, HF1.out⟩, by simp; omega⟩
    · have hke : k = n + 64 := by omega
      subst hke
      have HE : Hd (WC wr w.heap.size (.slice (some ⟨g, 0, none⟩) n (n + 64)) cs) := by
        refine ⟨g, ps, by rw [← HN.out], by rw [HG.out]; exact Nat.le_refl _, ?_, fun i c hc => HW.out i c (by have := (List.getElem?_eq_some_iff.1 hc).1; have := HN.out; omega) hc⟩
        rw [← HN.out]
        exact HR.out.congr (fun i hi => by rw [if_pos hi])
      have hn0 : (0 : Int) ≤ n := by omega
      have hn1 : (n : Int) ≤ (n : Int) + 64 := by omega
      go_wp2_with fail
      go_ret
      exact ⟨_, rfl, HE.out, HF.out⟩
set_option maxRecDepth 100000
set_option maxHeartbeats 4000000
theorem spareCode_any (v : Value) (cs : List PI) (B : Nat) (w : World) (hl : WC w B v cs) (hn : FineC cs) : Calls Tryd.prog 53 #[v] w fun e w' => e = .returned (.bool true) ∧ w' = w := by
  obtain ⟨g, ps, rfl, -, hR, hW⟩ := hl
  have HR : Hd (Rws w 71 7 g (cs.length + 64) (wideC cs ps)) := hR
  have HW : Hd _ := hW
  have HFI : Hd (FineC cs) := hn
  have hn := hn.1
  clear hR hW
  obtain ⟨n, hnl⟩ : ∃ n, n = cs.length := ⟨_, rfl⟩
  have HN : Hd (n = cs.length) := hnl
  rw [← hnl] at hn HR ⊢
  clear hnl
  have hn0 : (0 : Int) ≤ (n : Int) + 64 := by omega
  have hn1 : (n : Int) + 64 ≤ ((n + 64 : Nat) : Int) := by omega
  have ht : ((n : Int) + 64).toNat = n + 64 := by omega
  go_enter Tryd.func53, Tryd.ntmps53
  go_wp2_with fail
  go_loopw [4] (fun v wr => ∃ (k : Nat), v = .int .i64 k ∧ k ≤ n + 64 ∧ wr = w) (fun v _ => match v with | .int _ q => n + 64 - q.toNat | _ => 0)
  case atStart => exact ⟨0, rfl, by omega, rfl⟩
  case round =>
    obtain ⟨k, rfl, hk, rfl⟩ := hrel
    by_cases hlt : k < n + 64
    · have hk0 : (0 : Int) ≤ k := by omega
      have hk1 : (k : Int) < (n : Int) + 64 := by omega
      have hk3 : (k : Int) < ((n + 64 : Nat) : Int) := by omega
      have pc := fun o (ho : o < 7) => HR.out.cell (i := k) (o := o) hlt ho
      by_cases hin : k < n
      · have d1 : decide ((k : Int) ≥ n) = false := by simp; omega
        have hkc : k < cs.length := by have := HN.out; omega
        have e1 : wideC cs ps k = iR cs[k] (ps k) := by unfold wideC; rw [List.getElem?_eq_getElem hkc]
        rw [e1] at pc
        have p5 := pc 5 (by omega)
        have p6 := pc 6 (by omega)
        simp only [List.getD_cons_zero, List.getD_cons_succ] at p5 p6
        have HA : Hd (WI wr B (ps k).1 cs[k].args ∧ WI wr B (ps k).2 cs[k].rets) := HW.out k cs[k] (List.getElem?_eq_getElem hkc)
        have HC : Hd (cs[k].args.length ≤ 17592186043904 ∧ cs[k].rets.length ≤ 17592186043904) := HFI.out.2 _ (List.getElem_mem hkc)
        generalize cs[k] = ci at *
        generalize ps k = pk at *
        obtain ⟨x1, x2⟩ := pk
        simp only at p5 p6 HA
        obtain ⟨g1, e1, -⟩ := id HA.out.1
        obtain ⟨g2, e2, -⟩ := id HA.out.2
        subst e1
        subst e2
        clear pc
        go_wp2_with fail
        refine (show Calls Tryd.prog 76 #[.slice (some ⟨g1, 0, none⟩) ci.args.length (ci.args.length + 64)] wr _ from spareInts_any _ ci.args B wr HA.out.1 (by have := HC.out; omega)).mono ?_
        rintro e w1 ⟨rfl, rfl⟩
        go_wp2_with fail
        refine (show Calls Tryd.prog 76 #[.slice (some ⟨g2, 0, none⟩) ci.rets.length (ci.rets.length + 64)] _ _ from spareInts_any _ ci.rets B _ HA.out.2 (by have := HC.out; omega)).mono ?_
        rintro e w1 ⟨rfl, rfl⟩
        go_wp2_with fail
        exact ⟨⟨k + 1, by simp, by omega, by trivial⟩, by simp; omega⟩
      · have d1 : decide ((k : Int) ≥ n) = true := by simp; omega
        have e1 : wideC cs ps k = markC := by unfold wideC; rw [List.getElem?_eq_none (by have := HN.out; omega)]
        rw [e1] at pc
        have p0 := pc 0 (by omega)
        have p4 := pc 4 (by omega)
        simp only [Nat.add_zero, List.getD_cons_zero, List.getD_cons_succ] at p0 p4
        clear pc
        go_wp2_with fail
        exact ⟨⟨k + 1, by simp, by omega, by trivial⟩, by simp; omega⟩
    · have hke : k = n + 64 := by omega
      subst hke
      go_wp2_with fail
      go_ret
      exact ⟨rfl, rfl⟩
theorem WC.fr {S : Nat → Prop} {w w' : World} {B : Nat} {v : Value} {cs : List PI} (h : WC w B v cs) (f : Fr S w w') (hS : ∀ k, S k → k < B) : WC w' B v cs := by
  obtain ⟨g, ps, rfl, h1, h2, h3⟩ := h
  have no : ∀ k, B ≤ k → ¬ S k := fun k hk e => by have := hS k e; omega
  exact ⟨g, ps, rfl, h1, h2.fr f (no g h1), fun i c hc => ⟨(h3 i c hc).1.fr f (fun k e => no k ((h3 i c hc).1.ge k e).1), (h3 i c hc).2.fr f (fun k e => no k ((h3 i c hc).2.ge k e).1)⟩⟩
theorem WC.stay {w w' : World} {B : Nat} {v : Value} {cs : List PI} (h : WC w B v cs) (f : Fr (fun _ => False) w w') : WC w' B v cs := h.fr f (fun _ e => e.elim)
theorem WC.mono {w : World} {B B' : Nat} {v : Value} {cs : List PI} (h : WC w B v cs) (hB : B' ≤ B) : WC w B' v cs := by
  obtain ⟨g, ps, rfl, h1, h2, h3⟩ := h
  exact ⟨g, ps, rfl, by omega, h2, fun i c hc => ⟨(h3 i c hc).1.mono hB, (h3 i c hc).2.mono hB⟩⟩
theorem WC.ca {w : World} {B : Nat} {v : Value} {cs : List PI} (h : WC w B v cs) : CA w v cs := by
  obtain ⟨g, ps, rfl, h1, h2, h3⟩ := h
  refine ⟨_, _, rfl, fun _ => ⟨g, 0, rfl, h2.lt, fun j hj => ?_⟩⟩
  have pc := fun o (ho : o < 7) => h2.cell (i := j) (o := o) (by omega) ho
  have e1 : wideC cs ps j = iR cs[j] (ps j) := by unfold wideC; rw [List.getElem?_eq_getElem hj]
  rw [e1] at pc
  have hw := h3 j cs[j] (List.getElem?_eq_getElem hj)
  rw [Nat.zero_add]
  exact ⟨(ps j).1, (ps j).2, pc 0 (by omega), pc 1 (by omega), pc 2 (by omega), pc 3 (by omega), pc 4 (by omega), pc 5 (by omega), pc 6 (by omega), hw.1.ia, hw.2.ia⟩
theorem WC.ge {w : World} {B : Nat} {v : Value} {cs : List PI} (h : WC w B v cs) : ∀ k, v.ownBlock = some k → B ≤ k ∧ k < w.heap.size := by
  obtain ⟨g, ps, rfl, h1, h2, h3⟩ := h
  intro k e; cases e; exact ⟨h1, h2.lt⟩
theorem wideFunc_any (P R V : Int) (cv : Value) (cs : List PI) (w : World) (hl : CA w cv cs) (hn : FineC cs) :
    Calls Tryd.prog 51 #[.agg #[vI P, vI R, vI V, cv]] w fun e w' => ∃ v', e = .returned (.agg #[vI P, vI R, vI V, v']) ∧ WC w' w.heap.size v' cs ∧ Fr (fun _ => False) w w' := by
  obtain ⟨a, cp, rfl, h0⟩ := id hl
  have HL : Hd (CA w (.slice a cs.length cp) cs) := hl
  clear h0 hl
  have hF1 : Fr (fun _ => False) w ((w.alloc (.cells #[vI P, vI R, vI V, .slice a cs.length cp] 67)).alloc (.cells #[vI 0, vI 0, vI 0, .slice none 0 0] 67)) := Fr.alloc (Fr.alloc (Fr.refl _ w) _) _
  have HF1 : Hd _ := hF1
  have HB : Hd (((w.alloc (.cells #[vI P, vI R, vI V, .slice a cs.length cp] 67)).alloc (.cells #[vI 0, vI 0, vI 0, .slice none 0 0] 67)).heap[w.heap.size]? = some (.cells #[vI P, vI R, vI V, .slice a cs.length cp] 67)) := by
    unfold Hd
    rw [Go.RowKit.Below.heap_alloc _ _ _ (by simp)]
    exact heap_new w _
  have HB2 : Hd (((w.alloc (.cells #[vI P, vI R, vI V, .slice a cs.length cp] 67)).alloc (.cells #[vI 0, vI 0, vI 0, .slice none 0 0] 67)).heap[w.heap.size + 1]? = some (.cells #[vI 0, vI 0, vI 0, .slice none 0 0] 67)) := by
    unfold Hd
    rw [show w.heap.size + 1 = (w.alloc (.cells #[vI P, vI R, vI V, .slice a cs.length cp] 67)).heap.size by simp]
    exact heap_new _ _
  have hsz : ((w.alloc (.cells #[vI P, vI R, vI V, .slice a cs.length cp] 67)).alloc (.cells #[vI 0, vI 0, vI 0, .slice none 0 0] 67)).heap.size = w.heap.size + 2 := by simp
  go_enter Tryd.func51, Tryd.ntmps51
  go_wp2_with fail
  refine (show Calls Tryd.prog 75 #[.slice a cs.length cp] ((w.alloc (.cells #[vI P, vI R, vI V, .slice a cs.length cp] 67)).alloc (.cells #[vI 0, vI 0, vI 0, .slice none 0 0] 67)) _ from wideCode_any _ cs _ (HL.out.stay HF1.out) hn).mono ?_
  rintro e w2 ⟨v2, rfl, hv2, hF2⟩
  have HV2 : Hd (WC w2 w.heap.size v2 cs) := hv2.mono hF1.size
  have hne : ∀ k, v2.ownBlock = some k → w.heap.size + 2 ≤ k := fun k e => by have := (hv2.ge k e).1; omega
  have HGE : Hd (WC w2 (w.heap.size + 2) v2 cs) := hv2.mono (by omega)
  obtain ⟨g2, ps2, e2, -⟩ := id hv2
  subst e2
  have b1 := (hF2.block w.heap.size (by omega) (fun e => e)).trans HB.out
  have b2 := (hF2.block (w.heap.size + 1) (by omega) (fun e => e)).trans HB2.out
  have p0 : w2.cell? ⟨w.heap.size, 0, none⟩ = some (vI P) := by rw [cell_of b1]; rfl
  have p1 : w2.cell? ⟨w.heap.size, 1, none⟩ = some (vI R) := by rw [cell_of b1]; rfl
  have p2 : w2.cell? ⟨w.heap.size, 2, none⟩ = some (vI V) := by rw [cell_of b1]; rfl
  have p3 : w2.cell? ⟨w.heap.size, 3, none⟩ = some (.slice a cs.length cp) := by rw [cell_of b1]; rfl
  have r0 : w2.cell? ⟨w.heap.size + 1, 0, none⟩ = some (vI 0) := by rw [cell_of b2]; rfl
  have r1 : w2.cell? ⟨w.heap.size + 1, 1, none⟩ = some (vI 0) := by rw [cell_of b2]; rfl
  have r2 : w2.cell? ⟨w.heap.size + 1, 2, none⟩ = some (vI 0) := by rw [cell_of b2]; rfl
  have r3 : w2.cell? ⟨w.heap.size + 1, 3, none⟩ = some (.slice none 0 0) := by rw [cell_of b2]; rfl
  have z3 := frozen_of b1 3
  have y0 := frozen_of b2 0
  have y1 := frozen_of b2 1
  have y2 := frozen_of b2 2
  have y3 := frozen_of b2 3
  have HF3 : Hd (Fr (fun _ => False) w w2) := HF1.out.trans hF2
  clear hv2 hF2 hF1 HF1 HB HB2 HL hne
  obtain ⟨v2, hv2⟩ : ∃ v2, v2 = Value.slice (some ⟨g2, 0, none⟩) cs.length (cs.length + 64) := ⟨_, rfl⟩
  have f1 : Fr (fun k => k = w.heap.size ∨ k = w.heap.size + 1) w2 (((((w2.setCell ⟨w.heap.size, 3, none⟩ v2).setCell ⟨w.heap.size + 1, 0, none⟩ (vI P)).setCell ⟨w.heap.size + 1, 1, none⟩ (vI R)).setCell ⟨w.heap.size + 1, 2, none⟩ (vI V)).setCell ⟨w.heap.size + 1, 3, none⟩ v2) :=
    (((((Fr.refl _ w2).setCell _ _ (Or.inl (Or.inl rfl))).setCell _ _ (Or.inl (Or.inr rfl))).setCell _ _ (Or.inl (Or.inr rfl))).setCell _ _ (Or.inl (Or.inr rfl))).setCell _ _ (Or.inl (Or.inr rfl))
  have b3 : (((((w2.setCell ⟨w.heap.size, 3, none⟩ v2).setCell ⟨w.heap.size + 1, 0, none⟩ (vI P)).setCell ⟨w.heap.size + 1, 1, none⟩ (vI R)).setCell ⟨w.heap.size + 1, 2, none⟩ (vI V)).setCell ⟨w.heap.size + 1, 3, none⟩ v2).heap[w.heap.size + 1]? = some (.cells #[vI P, vI R, vI V, v2] 67) :=
    set_of (set_of (set_of (set_of (((setCell_fr w2 w.heap.size 3 v2).block (w.heap.size + 1) (heap_lt b2) (by omega)).trans b2) 0 (vI P)) 1 (vI R)) 2 (vI V)) 3 v2
  have HX : Hd (WC (((((w2.setCell ⟨w.heap.size, 3, none⟩ v2).setCell ⟨w.heap.size + 1, 0, none⟩ (vI P)).setCell ⟨w.heap.size + 1, 1, none⟩ (vI R)).setCell ⟨w.heap.size + 1, 2, none⟩ (vI V)).setCell ⟨w.heap.size + 1, 3, none⟩ v2) w.heap.size v2 cs) := by
    rw [hv2] at f1 ⊢
    exact (HGE.out.fr f1 (fun k hk => by omega)).mono (by omega)
  have HFX : Hd (Fr (fun _ => False) w (((((w2.setCell ⟨w.heap.size, 3, none⟩ v2).setCell ⟨w.heap.size + 1, 0, none⟩ (vI P)).setCell ⟨w.heap.size + 1, 1, none⟩ (vI R)).setCell ⟨w.heap.size + 1, 2, none⟩ (vI V)).setCell ⟨w.heap.size + 1, 3, none⟩ v2)) := HF3.out.then f1 (fun j hj e => by omega)
  have HB3 : Hd _ := b3
  have HV : Hd (v2 = Value.slice (some ⟨g2, 0, none⟩) cs.length (cs.length + 64)) := hv2
  clear f1 b3 hv2
  go_wp2_with fail
  rw [← HV.out]
  generalize (((((w2.setCell ⟨w.heap.size, 3, none⟩ v2).setCell ⟨w.heap.size + 1, 0, none⟩ (vI P)).setCell ⟨w.heap.size + 1, 1, none⟩ (vI R)).setCell ⟨w.heap.size + 1, 2, none⟩ (vI V)).setCell ⟨w.heap.size + 1, 3, none⟩ v2) = wz at *
  have c0 : wz.cell? ⟨w.heap.size + 1, 0, none⟩ = some (vI P) := by rw [cell_of HB3.out]; rfl
  have c1 : wz.cell? ⟨w.heap.size + 1, 1, none⟩ = some (vI R) := by rw [cell_of HB3.out]; rfl
  have c2 : wz.cell? ⟨w.heap.size + 1, 2, none⟩ = some (vI V) := by rw [cell_of HB3.out]; rfl
  have c3 : wz.cell? ⟨w.heap.size + 1, 3, none⟩ = some v2 := by rw [cell_of HB3.out]; rfl
  refine bodyPost_ret (v := .agg #[vI P, vI R, vI V, v2]) ?_ rfl ⟨v2, rfl, HX.out, HFX.out⟩
  rw [results_cell (p := 2) (ty := 67) Tryd.results51]
  simp [go_sem, c0, c1, c2, c3]
set_option maxRecDepth 100000
set_option maxHeartbeats 4000000
abbrev fR (f : PF) (cv : Value) : List Value := [vI f.P, vI f.R, vI f.V, cv]
abbrev markF : List Value := [vI 0, vI 0, vI (-77), .slice none 0 0]
abbrev zeroF : List Value := [vI 0, vI 0, vI 0, .slice none 0 0]
def wideF (fs : List PF) (cv : Nat → Value) (i : Nat) : List Value := match fs[i]? with | some f => fR f (cv i) | none => markF
def FA (w : World) (v : Value) (fs : List PF) : Prop :=
  ∃ a cp, v = .slice a fs.length cp ∧ (fs ≠ [] → ∃ k o, a = some ⟨k, o, none⟩ ∧ k < w.heap.size ∧ ∀ j (h : j < fs.length), ∃ cv,
    w.cell? ⟨k, o + j * 4, none⟩ = some (vI fs[j].P) ∧ w.cell? ⟨k, o + j * 4 + 1, none⟩ = some (vI fs[j].R) ∧ w.cell? ⟨k, o + j * 4 + 2, none⟩ = some (vI fs[j].V) ∧ w.cell? ⟨k, o + j * 4 + 3, none⟩ = some cv ∧ CA w cv fs[j].code)
theorem FA.stay {w w' : World} {v : Value} {fs : List PF} (h : FA w v fs) (f : Fr (fun _ => False) w w') : FA w' v fs := by
  obtain ⟨a, cp, rfl, h⟩ := h
  refine ⟨a, cp, rfl, fun hne => ?_⟩
  obtain ⟨k, o, rfl, hk, hc⟩ := h hne
  refine ⟨k, o, rfl, Nat.lt_of_lt_of_le hk f.size, fun j hj => ?_⟩
  obtain ⟨cv, h1, h2, h3, h4, h5⟩ := hc j hj
  have g : ∀ o, w'.cell? ⟨k, o, none⟩ = w.cell? ⟨k, o, none⟩ := fun o => f.cell hk (fun h => h)
  exact ⟨cv, (g _).trans h1, (g _).trans h2, (g _).trans h3, (g _).trans h4, h5.stay f⟩
def FineP (fs : List PF) : Prop := fs.length ≤ 2932031007317 ∧ ∀ f ∈ fs, FineC f.code
structure WF (w : World) (B : Nat) (v : Value) (fs : List PF) (g : Nat) (cv : Nat → Value) : Prop where
  val : v = .slice (some ⟨g, 0, none⟩) fs.length (fs.length + 64)
  ge : B ≤ g
  row : Rws w 67 4 g (fs.length + 64) (wideF fs cv)
  code : ∀ i f, fs[i]? = some f → WC w B (cv i) f.code
  apart : ∀ i j, i < fs.length → j < fs.length → i ≠ j → (cv i).ownBlock ≠ (cv j).ownBlock
theorem WC.ne {w : World} {B g m : Nat} {t sz : Nat} {R : Nat → List Value} {v : Value} {cs : List PI} (h : WC w B v cs) (hR : Rws w t sz g m R) (ht : t ≠ 71) : ∀ k, v.ownBlock = some k → k ≠ g := by
  obtain ⟨g', ps, rfl, -, ⟨cs', h', -⟩, -⟩ := h
  obtain ⟨cs, h2, -⟩ := hR
  intro k e1 e2
  cases e1
  subst e2
  rw [h'] at h2
  cases h2
  exact ht rfl
theorem WC.at {w w' : World} {B g m : Nat} {R : Nat → List Value} {v : Value} {cs : List PI} (h : WC w B v cs) (hR : Rws w 67 4 g m R) (f : Fr (fun k => k = g) w w') : WC w' B v cs := by
  have hne := h.ne hR (by decide)
  obtain ⟨g', ps, rfl, h1, h2, h3⟩ := h
  exact ⟨g', ps, rfl, h1, h2.fr f (hne g' rfl), fun i c hc => ⟨(h3 i c hc).1.fr f ((h3 i c hc).1.ne hR (by decide)), (h3 i c hc).2.fr f ((h3 i c hc).2.ne hR (by decide))⟩⟩
theorem under24 : Tryd.prog.underlying 24 = some (.slice 67) := by kernel_rfl
theorem make24 (n : Nat) (hn : n ≤ 3000000000000) (w : World) : (Instr.makeSlice 24 (.int .i64 n) (.int .i64 n)).run Tryd.prog w = .ok (.slice (some ⟨w.heap.size, 0, none⟩) n n) (w.alloc (.cells (madeCells zeroF.toArray (n * 4)) 67)) := by
  rw [run_make_of 24 67 (.agg zeroF.toArray) 4 48 under24 (by kernel_rfl) (by kernel_rfl) (by kernel_rfl) n (by omega) (by omega) w]
  rfl
theorem Rws.made4 (w : World) (m : Nat) : Rws (w.alloc (.cells (madeCells zeroF.toArray (m * 4)) 67)) 67 4 w.heap.size m (fun _ => zeroF) :=
  ⟨_, heap_new w _, by simp [madeCells], fun i o hi ho => by
    have hlt : i * 4 + o < m * 4 := by omega
    have e : (i * 4 + o) % 4 = o := by omega
    unfold madeCells
    simp only [Array.getElem?_map, Array.getElem?_range, hlt, if_true, Option.map_some]
    show some (zeroF.toArray[(i * 4 + o) % 4]!) = _
    rw [e]
    rcases (show o = 0 ∨ o = 1 ∨ o = 2 ∨ o = 3 by omega) with rfl | rfl | rfl | rfl <;> rfl⟩
theorem list4 {α : Type} : ∀ (l : List α), l.length = 4 → ∃ a b c d, l = [a, b, c, d]
  | [a, b, c, d], _ => ⟨a, b, c, d, rfl⟩
def fou4 (w : World) (g q : Nat) (x : List Value) : World :=
  (((w.setCell ⟨g, q, none⟩ (x.getD 0 undef)).setCell ⟨g, q + 1, none⟩ (x.getD 1 undef)).setCell ⟨g, q + 2, none⟩ (x.getD 2 undef)).setCell ⟨g, q + 3, none⟩ (x.getD 3 undef)
theorem Rws.set4 {w : World} {t g m : Nat} {R : Nat → List Value} (h : Rws w t 4 g m R) {i : Nat} (hi : i < m) (hl : (R i).length = 4) (x : List Value) (hx : x.length = 4) : Rws (fou4 w g (i * 4) x) t 4 g m (at1 R i x) := by
  have h0 := h.set1 (o := 0) hi (by omega) hl (x.getD 0 undef)
  have h1 := h0.set1 (i := i) (o := 1) hi (by omega) (by simp only [at1_self, List.length_set]; exact hl) (x.getD 1 undef)
  have h2 := h1.set1 (i := i) (o := 2) hi (by omega) (by simp only [at1_self, List.length_set]; exact hl) (x.getD 2 undef)
  have h3 := h2.set1 (i := i) (o := 3) hi (by omega) (by simp only [at1_self, List.length_set]; exact hl) (x.getD 3 undef)
  simp only [at1_at1, at1_self, Nat.add_zero] at h3
  obtain ⟨a, b, c, d, hR⟩ := list4 _ hl
  obtain ⟨x0, x1, x2, x3, rfl⟩ := list4 _ hx
  rw [hR] at h3
  simp only [List.set_cons_zero, List.set_cons_succ, List.getD_cons_zero, List.getD_cons_succ] at h3
  unfold fou4
  simp only [List.getD_cons_zero, List.getD_cons_succ]
  exact h3
theorem fou4_fr (w : World) (g q : Nat) (x : List Value) : Fr (fun k => k = g) w (fou4 w g q x) := by
  unfold fou4
  refine Fr.setCell (S := fun k => k = g) ?_ _ _ (Or.inl rfl)
  refine Fr.setCell (S := fun k => k = g) ?_ _ _ (Or.inl rfl)
  refine Fr.setCell (S := fun k => k = g) ?_ _ _ (Or.inl rfl)
  refine Fr.setCell (S := fun k => k = g) ?_ _ _ (Or.inl rfl)
  exact Fr.refl _ _
theorem wideProgram_any (G : Int) (v : Value) (fs : List PF) (w : World) (hl : FA w v fs) (hn : FineP fs) :
    Calls Tryd.prog 22 #[.agg #[vI G, v]] w fun e w' => ∃ v' g cv, e = .returned (.agg #[vI G, v']) ∧ WF w' w.heap.size v' fs g cv ∧ Fr (fun _ => False) w w' := by
  obtain ⟨a, cp, rfl, h0⟩ := hl
  have H0 : Hd _ := h0
  clear h0
  have HFI : Hd (FineP fs) := hn
  have hn := hn.1
  obtain ⟨n, hnl⟩ : ∃ n, n = fs.length := ⟨_, rfl⟩
  have HN : Hd (n = fs.length) := hnl
  rw [← hnl] at hn ⊢
  clear hnl
  obtain ⟨wa, hwa⟩ : ∃ wa, wa = (w.alloc (.cells #[vI G, .slice a n cp] 26)).alloc (.cells #[vI 0, .slice none 0 0] 26) := ⟨_, rfl⟩
  have hFa : Fr (fun _ => False) w wa := by rw [hwa]; exact Fr.alloc (Fr.alloc (Fr.refl _ w) _) _
  have hsz : wa.heap.size = w.heap.size + 2 := by rw [hwa]; simp
  have b1 : wa.heap[w.heap.size]? = some (.cells #[vI G, .slice a n cp] 26) := by
    rw [hwa, Go.RowKit.Below.heap_alloc _ _ _ (by simp)]
    exact heap_new w _
  have b2 : wa.heap[w.heap.size + 1]? = some (.cells #[vI 0, .slice none 0 0] 26) := by
    rw [hwa, show w.heap.size + 1 = (w.alloc (.cells #[vI G, .slice a n cp] 26)).heap.size by simp]
    exact heap_new _ _
  have hmk := make24 (n + 64) (by omega) wa
  have hcast : ((n + 64 : Nat) : Int) = (n : Int) + 64 := by omega
  rw [hcast, hsz] at hmk
  have HR : Hd (Rws (wa.alloc (.cells (madeCells zeroF.toArray ((n + 64) * 4)) 67)) 67 4 (w.heap.size + 2) (n + 64) (fun i => if i < 0 then wideF fs (fun _ => undef) i else zeroF)) := by
    have := (Rws.made4 wa (n + 64)).congr (R' := fun i => if i < 0 then wideF fs (fun _ => undef) i else zeroF) (fun i _ => by simp)
    rw [hsz] at this
    exact this
  have HF : Hd (Fr (fun _ => False) w (wa.alloc (.cells (madeCells zeroF.toArray ((n + 64) * 4)) 67))) := Fr.alloc hFa _
  have B1 : Hd ((wa.alloc (.cells (madeCells zeroF.toArray ((n + 64) * 4)) 67)).heap[w.heap.size]? = some (.cells #[vI G, .slice a n cp] 26)) := by
    unfold Hd; rw [Go.RowKit.Below.heap_alloc _ _ _ (by omega)]; exact b1
  have B2 : Hd ((wa.alloc (.cells (madeCells zeroF.toArray ((n + 64) * 4)) 67)).heap[w.heap.size + 1]? = some (.cells #[vI 0, .slice none 0 0] 26)) := by
    unfold Hd; rw [Go.RowKit.Below.heap_alloc _ _ _ (by omega)]; exact b2
  have HWA : Hd (wa = (w.alloc (.cells #[vI G, .slice a n cp] 26)).alloc (.cells #[vI 0, .slice none 0 0] 26)) := hwa
  obtain ⟨H, hH⟩ : ∃ H, H = w.heap.size := ⟨_, rfl⟩
  have HH : Hd (H = w.heap.size) := hH
  rw [← hH] at hmk HR B1 B2 b1 b2
  have q1 : wa.cell? ⟨H, 1, none⟩ = some (.slice a n cp) := by rw [cell_of b1]; rfl
  clear b1 b2 hFa hsz hH hwa
  go_enter Tryd.func22, Tryd.ntmps22
  go_upto_region 1 with fail
  rw [← HWA.out, ← HH.out]
  clear HWA
  go_wp2_with fail
  generalize wa.alloc (.cells (madeCells zeroF.toArray ((n + 64) * 4)) 67) = wb at *
  clear q1 hmk
  go_loopw [4] (fun v wr => ∃ (k : Nat) (cv : Nat → Value), v = .int .i64 k ∧ k ≤ n + 64 ∧ Hd (Rws wr 67 4 (H + 2) (n + 64) (fun i => if i < k then wideF fs cv i else zeroF)) ∧ Hd (∀ i f, i < k → fs[i]? = some f → WC wr w.heap.size (cv i) f.code) ∧ Hd (∀ i j, i < k → j < k → i < n → j < n → i ≠ j → (cv i).ownBlock ≠ (cv j).ownBlock) ∧ Hd (wr.heap[H]? = some (.cells #[vI G, .slice a n cp] 26)) ∧ Hd (wr.heap[H + 1]? = some (.cells #[vI 0, .slice none 0 0] 26)) ∧ Hd (Fr (fun _ => False) w wr)) (fun v _ => match v with | .int _ q => n + 64 - q.toNat | _ => 0)
  case atStart => exact ⟨0, fun _ => undef, rfl, Nat.zero_le _, HR.out, fun i c hi => absurd hi (Nat.not_lt_zero _), fun i j hi => absurd hi (Nat.not_lt_zero _), B1.out, B2.out, HF.out⟩
  case round =>
    clear HR HF B1 B2
    obtain ⟨k, cv, rfl, hk, HR, HW, HA, B1, B2, HF⟩ := hrel
    have u1 : wr.cell? ⟨H, 1, none⟩ = some (.slice a n cp) := by rw [cell_of B1.out]; rfl
    by_cases hlt : k < n + 64
    · have hk0 : (0 : Int) ≤ k := by omega
      have hk1 : (k : Int) < (n : Int) + 64 := by omega
      have pc := fun o (ho : o < 4) => HR.out.cell (i := k) (o := o) hlt ho
      rw [if_neg (Nat.lt_irrefl k)] at pc
      have p0 := pc 0 (by omega)
      have p1 := pc 1 (by omega)
      have p2 := pc 2 (by omega)
      have p3 := pc 3 (by omega)
      have z0 := HR.out.frozen (k * 4)
      have z1 := HR.out.frozen (k * 4 + 1)
      have z2 := HR.out.frozen (k * 4 + 2)
      have z3 := HR.out.frozen (k * 4 + 3)
      simp only [Nat.add_zero, List.getD_cons_zero, List.getD_cons_succ] at p0 p1 p2 p3
      clear pc
      have HR1 : Hd (Rws (fou4 wr (H + 2) (k * 4) markF) 67 4 (H + 2) (n + 64) (at1 (fun i => if i < k then wideF fs cv i else zeroF) k markF)) := HR.out.set4 hlt (by rw [if_neg (Nat.lt_irrefl k)]; rfl) markF rfl
      have hFs : Fr (fun j => j = H + 2) wr (fou4 wr (H + 2) (k * 4) markF) := fou4_fr _ _ _ _
      have HF1 : Hd (Fr (fun _ => False) w (fou4 wr (H + 2) (k * 4) markF)) := HF.out.then hFs (fun j hj e => by have := HH.out; omega)
      have HW1 : Hd (∀ i f, i < k → fs[i]? = some f → WC (fou4 wr (H + 2) (k * 4) markF) w.heap.size (cv i) f.code) := fun i f hi hf => (HW.out i f hi hf).at HR.out hFs
      have B11 : Hd ((fou4 wr (H + 2) (k * 4) markF).heap[H]? = some (.cells #[vI G, .slice a n cp] 26)) := (hFs.block H (heap_lt B1.out) (by omega)).trans B1.out
      have B21 : Hd ((fou4 wr (H + 2) (k * 4) markF).heap[H + 1]? = some (.cells #[vI 0, .slice none 0 0] 26)) := (hFs.block (H + 1) (heap_lt B2.out) (by omega)).trans B2.out
      clear hFs
      go_upto_region 6 with fail
      change Code.wp Tryd.prog _ _ _ (fou4 wr (H + 2) (k * 4) markF)
      clear p0 p1 p2 p3 z0 z1 z2 z3 HR HF HW B1 B2 u1
      generalize fou4 wr (H + 2) (k * 4) markF = w1 at *
      have u1 : w1.cell? ⟨H, 1, none⟩ = some (.slice a n cp) := by rw [cell_of B11.out]; rfl
      by_cases hin : k < n
      · have hk2 : (k : Int) < n := by omega
        have d1 : decide ((k : Int) < n) = true := by simpa using hk2
        have hkc : k < fs.length := by have := HN.out; omega
        obtain ⟨ak, ao, rfl, hak, hcells⟩ := H0.out (by intro e; simp [e] at hkc)
        obtain ⟨av, c0, c1, c2, c3, hav⟩ := hcells k hkc
        have HC : Hd (fs[k]? = some fs[k]) := List.getElem?_eq_getElem hkc
        have HCF : Hd (FineC fs[k].code) := HFI.out.2 _ (List.getElem_mem hkc)
        generalize fs[k] = f at *
        have q0 := (HF1.out.cell (o := ao + k * 4) hak (fun e => e)).trans c0
        have q1 := (HF1.out.cell (o := ao + k * 4 + 1) hak (fun e => e)).trans c1
        have q2 := (HF1.out.cell (o := ao + k * 4 + 2) hak (fun e => e)).trans c2
        have q3 := (HF1.out.cell (o := ao + k * 4 + 3) hak (fun e => e)).trans c3
        have HAV : Hd (CA w av f.code) := hav
        obtain ⟨aa, ac, rfl, -⟩ := id hav
        clear hcells c0 c1 c2 c3 hav
        go_wp2_with fail
        refine (show Calls Tryd.prog 51 #[.agg #[vI f.P, vI f.R, vI f.V, .slice aa f.code.length ac]] w1 _ from wideFunc_any f.P f.R f.V _ f.code w1 (HAV.out.stay HF1.out) HCF.out).mono ?_
        rintro e w3 ⟨v3, rfl, hv3, hF3⟩
        have HR3 : Hd (Rws w3 67 4 (H + 2) (n + 64) (at1 (fun i => if i < k then wideF fs cv i else zeroF) k markF)) := HR1.out.fr hF3 (fun e => e)
        have HV3 : Hd (WC w3 w.heap.size v3 f.code) := hv3.mono HF1.out.size
        have HG3 : Hd (∀ j, v3.ownBlock = some j → w1.heap.size ≤ j) := fun j e => (hv3.ge j e).1
        have HF3 : Hd (Fr (fun _ => False) w w3) := HF1.out.trans hF3
        have HW3 : Hd (∀ i f, i < k → fs[i]? = some f → WC w3 w.heap.size (cv i) f.code) := fun i f hi hf => (HW1.out i f hi hf).stay hF3
        have HL3 : Hd (∀ i f, i < k → fs[i]? = some f → ∀ j, (cv i).ownBlock = some j → j < w1.heap.size) := fun i f hi hf j e => ((HW1.out i f hi hf).ge j e).2
        have B13 : Hd (w3.heap[H]? = some (.cells #[vI G, .slice (some ⟨ak, ao, none⟩) n cp] 26)) := (hF3.block H (heap_lt B11.out) (fun e => e)).trans B11.out
        have B23 : Hd (w3.heap[H + 1]? = some (.cells #[vI 0, .slice none 0 0] 26)) := (hF3.block (H + 1) (heap_lt B21.out) (fun e => e)).trans B21.out
        obtain ⟨g3, ps3, e3, -⟩ := id hv3
        subst e3
        clear hv3 hF3 HR1 HF1 HW1 q0 q1 q2 q3 B11 B21 u1
        have pc := fun o (ho : o < 4) => HR3.out.cell (i := k) (o := o) hlt ho
        rw [at1_self] at pc
        have p0 := pc 0 (by omega)
        have p1 := pc 1 (by omega)
        have p2 := pc 2 (by omega)
        have p3 := pc 3 (by omega)
        simp only [Nat.add_zero, List.getD_cons_zero, List.getD_cons_succ] at p0 p1 p2 p3
        have z0 := HR3.out.frozen (k * 4)
        have z1 := HR3.out.frozen (k * 4 + 1)
        have z2 := HR3.out.frozen (k * 4 + 2)
        have z3 := HR3.out.frozen (k * 4 + 3)
        clear pc
        obtain ⟨v3, hv3⟩ : ∃ v3, v3 = Value.slice (some ⟨g3, 0, none⟩) f.code.length (f.code.length + 64) := ⟨_, rfl⟩
        have HE3 : Hd (v3 = Value.slice (some ⟨g3, 0, none⟩) f.code.length (f.code.length + 64)) := hv3
        rw [← hv3] at HV3 HG3
        have hFs : Fr (fun j => j = H + 2) w3 (fou4 w3 (H + 2) (k * 4) (fR f v3)) := fou4_fr _ _ _ _
        have HR4 : Hd (Rws (fou4 w3 (H + 2) (k * 4) (fR f v3)) 67 4 (H + 2) (n + 64) (fun i => if i < k + 1 then wideF fs (at1 cv k v3) i else zeroF)) := by
          have := HR3.out.set4 (i := k) hlt (by rw [at1_self]; rfl) (fR f v3) rfl
          rw [at1_at1] at this
          refine this.congr (fun i _ => ?_)
          by_cases e : i = k
          · subst e
            rw [at1_self, if_pos (by omega)]
            unfold wideF
            rw [HC.out, at1_self]
          · rw [at1_ne _ _ e]
            by_cases hi : i < k
            · rw [if_pos hi, if_pos (by omega)]
              unfold wideF
              rw [at1_ne _ _ e]
            · rw [if_neg hi, if_neg (by omega)]
        have HF4 : Hd (Fr (fun _ => False) w (fou4 w3 (H + 2) (k * 4) (fR f v3))) := HF3.out.then hFs (fun j hj e => by have := HH.out; omega)
        have HW4 : Hd (∀ i h, i < k + 1 → fs[i]? = some h → WC (fou4 w3 (H + 2) (k * 4) (fR f v3)) w.heap.size (at1 cv k v3 i) h.code) := fun i h hi hf => by
          by_cases e : i = k
          · subst e
            rw [HC.out] at hf
            cases hf
            rw [at1_self]
            exact HV3.out.at HR3.out hFs
          · rw [at1_ne _ _ e]
            exact (HW3.out i h (by omega) hf).at HR3.out hFs
        have HA4 : Hd (∀ i j, i < k + 1 → j < k + 1 → i < n → j < n → i ≠ j → (at1 cv k v3 i).ownBlock ≠ (at1 cv k v3 j).ownBlock) := fun i j hi hj hi2 hjn hne => by
          have hbl : ∀ i, i < k → i < n → ∃ b, (cv i).ownBlock = some b ∧ b < w1.heap.size := fun i hi hin => by
            have hi2 : i < fs.length := by have := HN.out; omega
            obtain ⟨g', ps', e', -⟩ := HW3.out i fs[i] hi (List.getElem?_eq_getElem hi2)
            refine ⟨g', by rw [e']; rfl, HL3.out i fs[i] hi (List.getElem?_eq_getElem hi2) g' (by rw [e']; rfl)⟩
          have h3 : ∃ b, v3.ownBlock = some b ∧ w1.heap.size ≤ b := ⟨g3, by rw [HE3.out]; rfl, HG3.out g3 (by rw [HE3.out]; rfl)⟩
          obtain ⟨b3, e3, hb3⟩ := h3
          by_cases ei : i = k
          · subst ei
            rw [at1_self, at1_ne _ _ (Ne.symm hne), e3]
            obtain ⟨b, eb, hb⟩ := hbl j (by omega) hjn
            rw [eb]
            intro e; cases e; omega
          · by_cases ej : j = k
            · subst ej
              rw [at1_self, at1_ne _ _ ei, e3]
              obtain ⟨b, eb, hb⟩ := hbl i (by omega) hi2
              rw [eb]
              intro e; cases e; omega
            · rw [at1_ne _ _ ei, at1_ne _ _ ej]
              exact HA.out i j (by omega) (by omega) hi2 hjn hne
        have B14 : Hd ((fou4 w3 (H + 2) (k * 4) (fR f v3)).heap[H]? = some (.cells #[vI G, .slice (some ⟨ak, ao, none⟩) n cp] 26)) := (hFs.block H (heap_lt B13.out) (by omega)).trans B13.out
        have B24 : Hd ((fou4 w3 (H + 2) (k * 4) (fR f v3)).heap[H + 1]? = some (.cells #[vI 0, .slice none 0 0] 26)) := (hFs.block (H + 1) (heap_lt B23.out) (by omega)).trans B23.out
        clear hFs HR3 HF3 HW3 HA HG3 HL3 B13 B23 HV3
        subst hv3
        go_upto_region 4 with fail
        change Code.wp Tryd.prog _ _ _ (fou4 w3 (H + 2) (k * 4) (fR f (.slice (some ⟨g3, 0, none⟩) f.code.length (f.code.length + 64))))
        clear p0 p1 p2 p3 z0 z1 z2 z3
        generalize fou4 w3 (H + 2) (k * 4) (fR f (.slice (some ⟨g3, 0, none⟩) f.code.length (f.code.length + 64))) = w4 at *
        go_wp2_with fail
        exact ⟨⟨k + 1, _, by simp, by omega, HR4.out, HW4.out, HA4.out, B14.out, B24.out, HF4.out⟩, by simp; omega⟩
      · have d1 : decide ((k : Int) < n) = false := by simp; omega
        have HR2 : Hd (Rws w1 67 4 (H + 2) (n + 64) (fun i => if i < k + 1 then wideF fs cv i else zeroF)) := by
          refine HR1.out.congr (fun i _ => ?_)
          by_cases e : i = k
          · subst e; rw [at1_self, if_pos (by omega)]; unfold wideF; rw [List.getElem?_eq_none (by have := HN.out; omega)]
          · rw [at1_ne _ _ e]
            by_cases hi : i < k
            · rw [if_pos hi, if_pos (by omega)]
            · rw [if_neg hi, if_neg (by omega)]
        have HW2 : Hd (∀ i f, i < k + 1 → fs[i]? = some f → WC w1 w.heap.size (cv i) f.code) := fun i f hi hf => HW1.out i f (by have := (List.getElem?_eq_some_iff.1 hf).1; have := HN.out; omega) hf
        have HA2 : Hd (∀ i j, i < k + 1 → j < k + 1 → i < n → j < n → i ≠ j → (cv i).ownBlock ≠ (cv j).ownBlock) := fun i j hi hj hin hjn => HA.out i j (by omega) (by omega) hin hjn
        clear HR1 HW1 HA
        go_wp2_with fail
        exact ⟨⟨k + 1, cv, by simp, by omega, HR2.out, HW2.out, HA2.out, B11.out, B21.out, HF1.out⟩, by simp; omega⟩
    · have hke : k = n + 64 := by omega
      subst hke
      have hn0 : (0 : Int) ≤ n := by omega
      have hn1 : (n : Int) ≤ (n : Int) + 64 := by omega
      have u0 : wr.cell? ⟨H, 0, none⟩ = some (vI G) := by rw [cell_of B1.out]; rfl
      have r0 : wr.cell? ⟨H + 1, 0, none⟩ = some (vI 0) := by rw [cell_of B2.out]; rfl
      have r1 : wr.cell? ⟨H + 1, 1, none⟩ = some (.slice none 0 0) := by rw [cell_of B2.out]; rfl
      have y0 := frozen_of B2.out 0
      have y1 := frozen_of B2.out 1
      obtain ⟨v2, hv2⟩ : ∃ v2, v2 = Value.slice (some ⟨H + 2, 0, none⟩) n (n + 64) := ⟨_, rfl⟩
      have HV : Hd (v2 = Value.slice (some ⟨H + 2, 0, none⟩) n (n + 64)) := hv2
      have f1 : Fr (fun j => j = H + 1) wr (((wr.setCell ⟨H + 1, 0, none⟩ (vI G)).setCell ⟨H + 1, 1, none⟩ v2).drew) := ((Fr.setCell (S := fun j => j = H + 1) (Fr.setCell (S := fun j => j = H + 1) (Fr.refl _ wr) _ _ (Or.inl rfl)) _ _ (Or.inl rfl))).drew
      have HB3 : Hd ((((wr.setCell ⟨H + 1, 0, none⟩ (vI G)).setCell ⟨H + 1, 1, none⟩ v2).drew).heap[H + 1]? = some (.cells #[vI G, v2] 26)) := set_of (set_of B2.out 0 (vI G)) 1 v2
      have HX : Hd (WF (((wr.setCell ⟨H + 1, 0, none⟩ (vI G)).setCell ⟨H + 1, 1, none⟩ v2).drew) w.heap.size v2 fs (H + 2) cv) := by
        have nb : ∀ (o : Obj), wr.heap[H + 1]? = some o → o = .cells #[vI 0, .slice none 0 0] 26 := fun o e => by rw [B2.out] at e; exact (Option.some.inj e).symm
        refine ⟨by rw [HV.out, ← HN.out], by have := HH.out; omega, ?_, fun i f hf => ?_, fun i j hi hj => HA.out i j (by have := HN.out; omega) (by have := HN.out; omega) (by have := HN.out; omega) (by have := HN.out; omega)⟩
        · rw [← HN.out]
          exact (HR.out.congr (fun i hi => by rw [if_pos hi])).fr f1 (by omega)
        · have hi : i < n := by have := (List.getElem?_eq_some_iff.1 hf).1; have := HN.out; omega
          obtain ⟨g', ps, e, h1, h2, h3⟩ := HW.out i f (by omega) hf
          have n1 : g' ≠ H + 1 := fun e2 => by
            subst e2
            obtain ⟨cs, h4, -⟩ := h2
            cases nb _ h4
          have n2 : ∀ (v : Value) (l : List Int), WI wr w.heap.size v l → ∀ k, v.ownBlock = some k → ¬ (k = H + 1) := fun v l hv k ek e2 => by
            subst e2
            obtain ⟨g'', rfl, -, cs, h4, -⟩ := hv
            cases ek
            cases nb _ h4
          exact ⟨g', ps, e, h1, h2.fr f1 n1, fun i c hc => ⟨(h3 i c hc).1.fr f1 (n2 _ _ (h3 i c hc).1), (h3 i c hc).2.fr f1 (n2 _ _ (h3 i c hc).2)⟩⟩
      have HFX : Hd (Fr (fun _ => False) w (((wr.setCell ⟨H + 1, 0, none⟩ (vI G)).setCell ⟨H + 1, 1, none⟩ v2).drew)) := HF.out.then f1 (fun j hj e => by have := HH.out; omega)
      clear f1 HR HW HA hv2
      go_upto_region 8 with fail
      refine wp_region_still_tail 8 mixed (by kernel_rfl) ?_
      simp only [List.take_succ_cons, List.take_zero, List.drop_succ_cons, List.drop_zero]
      repeat still_step
      refine wpStill_nil ?_
      go_wp2_with fail
      rw [← HV.out]
      generalize ((wr.setCell ⟨H + 1, 0, none⟩ (vI G)).setCell ⟨H + 1, 1, none⟩ v2).drew = wz at *
      have c0 : wz.cell? ⟨H + 1, 0, none⟩ = some (vI G) := by rw [cell_of HB3.out]; rfl
      have c1 : wz.cell? ⟨H + 1, 1, none⟩ = some v2 := by rw [cell_of HB3.out]; rfl
      refine bodyPost_ret (v := .agg #[vI G, v2]) ?_ rfl ⟨v2, H + 2, cv, rfl, HX.out, HFX.out⟩
      rw [results_cell (p := 2) (ty := 26) Tryd.results22]
      simp [go_sem, c0, c1]
end Go.Proofs.YtingenonbkencaaDoor
