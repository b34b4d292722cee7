import Derived.Test.YtlmlmhinbkcpoaaGreatDoorQLcJ
import Derived.Test.YtlmlmhinbkcpoaaGreatDoorQLaJ
import Derived.BigQuiet
namespace Go.Proofs.YtlmlmhinbkcpoaaGreatDoor
open Go.RowKit (wrap32 wrap64)
set_option linter.unusedVariables false
set_option linter.unusedSimpArgs false
set_option maxRecDepth 100000
set_option maxHeartbeats 4000000
abbrev fR (f : PF) (cv : Value) : List Value := [vI f.P, vI f.R, vI f.V, cv]
abbrev markF : List Value := [vI 0, vI 0, vI (-77), .slice none 0 0]
abbrev zeroF : List Value := [vI 0, vI 0, vI 0, .slice none 0 0]
def wideF (fs : List PF) (cv : Nat → Value) (i : Nat) : List Value := match fs[i]? with | some f => fR f (cv i) | none => markF
def FA (w : World) (v : Value) (fs : List PF) : Prop :=
  ∃ a cp, v = .slice a fs.length cp ∧ (fs ≠ [] → ∃ k o, a = some ⟨k, o, none⟩ ∧ k < w.heap.size ∧ ∀ j (h : j < fs.length), ∃ cv,
    w.cell? ⟨k, o + j * 4, none⟩ = some (vI fs[j].P) ∧ w.cell? ⟨k, o + j * 4 + 1, none⟩ = some (vI fs[j].R) ∧ w.cell? ⟨k, o + j * 4 + 2, none⟩ = some (vI fs[j].V) ∧ w.cell? ⟨k, o + j * 4 + 3, none⟩ = some cv ∧ CA w cv fs[j].code)
theorem FA.stay {w w' : World} {v : Value} {fs : List PF} (h : FA w v fs) (f : Fr (fun _ => False) w w') : FA w' v fs := by
  obtain ⟨a, cp, rfl, h⟩ := h
  refine ⟨a, cp, rfl, fun hne => ?_⟩
  obtain ⟨k, o, rfl, hk, hc⟩ := h hne
  refine ⟨k, o, rfl, Nat.lt_of_lt_of_le hk f.size, fun j hj => ?_⟩
  obtain ⟨cv, h1, h2, h3, h4, h5⟩ := hc j hj
  have g : ∀ o, w'.cell? ⟨k, o, none⟩ = w.cell? ⟨k, o, none⟩ := fun o => f.cell hk (fun h => h)
  exact ⟨cv, (g _).trans h1, (g _).trans h2, (g _).trans h3, (g _).trans h4, h5.stay f⟩
def FineP (fs : List PF) : Prop := fs.length ≤ 2932031007317 ∧ ∀ f ∈ fs, FineC f.code
structure WF (w : World) (B : Nat) (v : Value) (fs : List PF) (g : Nat) (cv : Nat → Value) : Prop where
  val : v = .slice (some ⟨g, 0, none⟩) fs.length (fs.length + 64)
  ge : B ≤ g
  row : Rws w 46 4 g (fs.length + 64) (wideF fs cv)
  code : ∀ i f, fs[i]? = some f → WC w B (cv i) f.code
  apart : ∀ i j, i < fs.length → j < fs.length → i ≠ j → (cv i).ownBlock ≠ (cv j).ownBlock
theorem WC.ne {w : World} {B g m : Nat} {t sz : Nat} {R : Nat → List Value} {v : Value} {cs : List PI} (h : WC w B v cs) (hR : Rws w t sz g m R) (ht : t ≠ 48) : ∀ k, v.ownBlock = some k → k ≠ g := by
  obtain ⟨g', ps, rfl, -, ⟨cs', h', -⟩, -⟩ := h
  obtain ⟨cs, h2, -⟩ := hR
  intro k e1 e2
  cases e1
  subst e2
  rw [h'] at h2
  cases h2
  exact ht rfl
theorem WC.at {w w' : World} {B g m : Nat} {R : Nat → List Value} {v : Value} {cs : List PI} (h : WC w B v cs) (hR : Rws w 46 4 g m R) (f : Fr (fun k => k = g) w w') : WC w' B v cs := by
  have hne := h.ne hR (by decide)
  obtain ⟨g', ps, rfl, h1, h2, h3⟩ := h
  exact ⟨g', ps, rfl, h1, h2.fr f (hne g' rfl), fun i c hc => ⟨(h3 i c hc).1.fr f ((h3 i c hc).1.ne hR (by decide)), (h3 i c hc).2.fr f ((h3 i c hc).2.ne hR (by decide))⟩⟩
theorem under24 : Tryz.prog.underlying 22 = some (.slice 46) := by kernel_rfl
theorem make24 (n : Nat) (hn : n ≤ 3000000000000) (w : World) : (Instr.makeSlice 22 (.int .i64 n) (.int .i64 n)).run Tryz.prog w = .ok (.slice (some ⟨w.heap.size, 0, none⟩) n n) (w.alloc (.cells (madeCells zeroF.toArray (n * 4)) 46)) := by
  rw [run_make_of 22 46 (.agg zeroF.toArray) 4 48 under24 (by kernel_rfl) (by kernel_rfl) (by kernel_rfl) n (by omega) (by omega) w]
  rfl
theorem Rws.made4 (w : World) (m : Nat) : Rws (w.alloc (.cells (madeCells zeroF.toArray (m * 4)) 46)) 46 4 w.heap.size m (fun _ => zeroF) :=
  ⟨_, heap_new w _, by simp [madeCells], fun i o hi ho => by
    have hlt : i * 4 + o < m * 4 := by omega
    have e : (i * 4 + o) % 4 = o := by omega
    unfold madeCells
    simp only [Array.getElem?_map, Array.getElem?_range, hlt, if_true, Option.map_some]
    show some (zeroF.toArray[(i * 4 + o) % 4]!) = _
    rw [e]
    rcases (show o = 0 ∨ o = 1 ∨ o = 2 ∨ o = 3 by omega) with rfl | rfl | rfl | rfl <;> rfl⟩
theorem list4 {α : Type} : ∀ (l : List α), l.length = 4 → ∃ a b c d, l = [a, b, c, d]
  | [a, b, c, d], _ => ⟨a, b, c, d, rfl⟩
def fou4 (w : World) (g q : Nat) (x : List Value) : World :=
  (((w.setCell ⟨g, q, none⟩ (x.getD 0 undef)).setCell ⟨g, q + 1, none⟩ (x.getD 1 undef)).setCell ⟨g, q + 2, none⟩ (x.getD 2 undef)).setCell ⟨g, q + 3, none⟩ (x.getD 3 undef)
theorem Rws.set4 {w : World} {t g m : Nat} {R : Nat → List Value} (h : Rws w t 4 g m R) {i : Nat} (hi : i < m) (hl : (R i).length = 4) (x : List Value) (hx : x.length = 4) : Rws (fou4 w g (i * 4) x) t 4 g m (at1 R i x) := by
  have h0 := h.set1 (o := 0) hi (by omega) hl (x.getD 0 undef)
  have h1 := h0.set1 (i := i) (o := 1) hi (by omega) (by simp only [at1_self, List.length_set]; exact hl) (x.getD 1 undef)
  have h2 := h1.set1 (i := i) (o := 2) hi (by omega) (by simp only [at1_self, List.length_set]; exact hl) (x.getD 2 undef)
  have h3 := h2.set1 (i := i) (o := 3) hi (by omega) (by simp only [at1_self, List.length_set]; exact hl) (x.getD 3 undef)
  simp only [at1_at1, at1_self, Nat.add_zero] at h3
  obtain ⟨a, b, c, d, hR⟩ := list4 _ hl
  obtain ⟨x0, x1, x2, x3, rfl⟩ := list4 _ hx
  rw [hR] at h3
  simp only [List.set_cons_zero, List.set_cons_succ, List.getD_cons_zero, List.getD_cons_succ] at h3
  unfold fou4
  simp only [List.getD_cons_zero, List.getD_cons_succ]
  exact h3
theorem fou4_fr (w : World) (g q : Nat) (x : List Value) : Fr (fun k => k = g) w (fou4 w g q x) := by
  unfold fou4
  refine Fr.setCell (S := fun k => k = g) ?_ _ _ (Or.inl rfl)
  refine Fr.setCell (S := fun k => k = g) ?_ _ _ (Or.inl rfl)
  refine Fr.setCell (S := fun k => k = g) ?_ _ _ (Or.inl rfl)
  refine Fr.setCell (S := fun k => k = g) ?_ _ _ (Or.inl rfl)
  exact Fr.refl _ _
theorem wideProgram_any (G : Int) (v : Value) (fs : List PF) (w : World) (hl : FA w v fs) (hn : FineP fs) :
    Calls Tryz.prog 5 #[.agg #[vI G, v]] w fun e w' => ∃ v' g cv, e = .returned (.agg #[vI G, v']) ∧ WF w' w.heap.size v' fs g cv ∧ Fr (fun _ => False) w w' := by
  obtain ⟨a, cp, rfl, h0⟩ := hl
  have H0 : Hd _ := h0
  clear h0
  have HFI : Hd (FineP fs) := hn
  have hn := hn.1
  obtain ⟨n, hnl⟩ : ∃ n, n = fs.length := ⟨_, rfl⟩
  have HN : Hd (n = fs.length) := hnl
  rw [← hnl] at hn ⊢
  clear hnl
  obtain ⟨wa, hwa⟩ : ∃ wa, wa = (w.alloc (.cells #[vI G, .slice a n cp] 24)).alloc (.cells #[vI 0, .slice none 0 0] 24) := ⟨_, rfl⟩
  have hFa : Fr (fun _ => False) w wa := by rw [hwa]; exact Fr.alloc (Fr.alloc (Fr.refl _ w) _) _
  have hsz : wa.heap.size = w.heap.size + 2 := by rw [hwa]; simp
  have b1 : wa.heap[w.heap.size]? = some (.cells #[vI G, .slice a n cp] 24) := by
    rw [hwa, Go.RowKit.Below.heap_alloc _ _ _ (by simp)]
    exact heap_new w _
  have b2 : wa.heap[w.heap.size + 1]? = some (.cells #[vI 0, .slice none 0 0] 24) := by
    rw [hwa, show w.heap.size + 1 = (w.alloc (.cells #[vI G, .slice a n cp] 24)).heap.size by simp]
    exact heap_new _ _
  have hmk := make24 (n + 64) (by omega) wa
  have hcast : ((n + 64 : Nat) : Int) = (n : Int) + 64 := by omega
  rw [hcast, hsz] at hmk
  have HR : Hd (Rws (wa.alloc (.cells (madeCells zeroF.toArray ((n + 64) * 4)) 46)) 46 4 (w.heap.size + 2) (n + 64) (fun i => if i < 0 then wideF fs (fun _ => undef) i else zeroF)) := by
    have := (Rws.made4 wa (n + 64)).congr (R' := fun i => if i < 0 then wideF fs (fun _ => undef) i else zeroF) (fun i _ => by simp)
    rw [hsz] at this
    exact this
  have HF : Hd (Fr (fun _ => False) w (wa.alloc (.cells (madeCells zeroF.toArray ((n + 64) * 4)) 46))) := Fr.alloc hFa _
  have B1 : Hd ((wa.alloc (.cells (madeCells zeroF.toArray ((n + 64) * 4)) 46)).heap[w.heap.size]? = some (.cells #[vI G, .slice a n cp] 24)) := by
    unfold Hd; rw [Go.RowKit.Below.heap_alloc _ _ _ (by omega)]; exact b1
  have B2 : Hd ((wa.alloc (.cells (madeCells zeroF.toArray ((n + 64) * 4)) 46)).heap[w.heap.size + 1]? = some (.cells #[vI 0, .slice none 0 0] 24)) := by
    unfold Hd; rw [Go.RowKit.Below.heap_alloc _ _ _ (by omega)]; exact b2
  have HWA : Hd (wa = (w.alloc (.cells #[vI G, .slice a n cp] 24)).alloc (.cells #[vI 0, .slice none 0 0] 24)) := hwa
  obtain ⟨H, hH⟩ : ∃ H, H = w.heap.size := ⟨_, rfl⟩
  have HH : Hd (H = w.heap.size) := hH
  rw [← hH] at hmk HR B1 B2 b1 b2
  have q1 : wa.cell? ⟨H, 1, none⟩ = some (.slice a n cp) := by rw [cell_of b1]; rfl
  clear b1 b2 hFa hsz hH hwa
  go_enter Tryz.func5, Tryz.ntmps5
  go_upto_region 1 with fail
  rw [← HWA.out, ← HH.out]
  clear HWA
  go_wp2_with fail
  generalize wa.alloc (.cells (madeCells zeroF.toArray ((n + 64) * 4)) 46) = wb at *
  clear q1 hmk
  go_loopw [4] (fun v wr => ∃ (k : Nat) (cv : Nat → Value), v = .int .i64 k ∧ k ≤ n + 64 ∧ Hd (Rws wr 46 4 (H + 2) (n + 64) (fun i => if i < k then wideF fs cv i else zeroF)) ∧ Hd (∀ i f, i < k → fs[i]? = some f → WC wr w.heap.size (cv i) f.code) ∧ Hd (∀ i j, i < k → j < k → i < n → j < n → i ≠ j → (cv i).ownBlock ≠ (cv j).ownBlock) ∧ Hd (wr.heap[H]? = some (.cells #[vI G, .slice a n cp] 24)) ∧ Hd (wr.heap[H + 1]? = some (.cells #[vI 0, .slice none 0 0] 24)) ∧ Hd (Fr (fun _ => False) w wr)) (fun v _ => match v with | .int _ q => n + 64 - q.toNat | _ => 0)
  case atStart => exact ⟨0, fun _ => undef, rfl, Nat.zero_le _, HR.out, fun i c hi => absurd hi (Nat.not_lt_zero _), fun i j hi => absurd hi (Nat.not_lt_zero _), B1.out, B2.out, HF.out⟩
  case round =>
    clear HR HF B1 B2
    obtain ⟨k, cv, rfl, hk, HR, HW, HA, B1, B2, HF⟩ := hrel
    have u1 : wr.cell? ⟨H, 1, none⟩ = some (.slice a n cp) := by rw [cell_of B1.out]; rfl
    by_cases hlt : k < n + 64
    · have hk0 : (0 : Int) ≤ k := by omega
      have hk1 : (k : Int) < (n : Int) + 64 := by omega
      have pc := fun o (ho : o < 4) => HR.out.cell (i := k) (o := o) hlt ho
      rw [if_neg (Nat.lt_irrefl k)] at pc
      have p0 := pc 0 (by omega)
      have p1 := pc 1 (by omega)
      have p2 := pc 2 (by omega)
      have p3 := pc 3 (by omega)
      have z0 := HR.out.frozen (k * 4)
      have z1 := HR.out.frozen (k * 4 + 1)
      have z2 := HR.out.frozen (k * 4 + 2)
      have z3 := HR.out.frozen (k * 4 + 3)
      simp only [Nat.add_zero, List.getD_cons_zero, List.getD_cons_succ] at p0 p1 p2 p3
      clear pc
      have HR1 : Hd (Rws (fou4 wr (H + 2) (k * 4) markF) 46 4 (H + 2) (n + 64) (at1 (fun i => if i < k then wideF fs cv i else zeroF) k markF)) := HR.out.set4 hlt (by rw [if_neg (Nat.lt_irrefl k)]; rfl) markF rfl
      have hFs : Fr (fun j => j = H + 2) wr (fou4 wr (H + 2) (k * 4) markF) := fou4_fr _ _ _ _
      have HF1 : Hd (Fr (fun _ => False) w (fou4 wr (H + 2) (k * 4) markF)) := HF.out.then hFs (fun j hj e => by have := HH.out; omega)
      have HW1 : Hd (∀ i f, i < k → fs[i]? = some f → WC (fou4 wr (H + 2) (k * 4) markF) w.heap.size (cv i) f.code) := fun i f hi hf => (HW.out i f hi hf).at HR.out hFs
      have B11 : Hd ((fou4 wr (H + 2) (k * 4) markF).heap[H]? = some (.cells #[vI G, .slice a n cp] 24)) := (hFs.block H (heap_lt B1.out) (by omega)).trans B1.out
      have B21 : Hd ((fou4 wr (H + 2) (k * 4) markF).heap[H + 1]? = some (.cells #[vI 0, .slice none 0 0] 24)) := (hFs.block (H + 1) (heap_lt B2.out) (by omega)).trans B2.out
      clear hFs
      go_upto_region 6 with fail
      change Code.wp Tryz.prog _ _ _ (fou4 wr (H + 2) (k * 4) markF)
      clear p0 p1 p2 p3 z0 z1 z2 z3 HR HF HW B1 B2 u1
      generalize fou4 wr (H + 2) (k * 4) markF = w1 at *
      have u1 : w1.cell? ⟨H, 1, none⟩ = some (.slice a n cp) := by rw [cell_of B11.out]; rfl
      by_cases hin : k < n
      · have hk2 : (k : Int) < n := by omega
        have d1 : decide ((k : Int) < n) = true := by simpa using hk2
        have hkc : k < fs.length := by have := HN.out; omega
        obtain ⟨ak, ao, rfl, hak, hcells⟩ := H0.out (by intro e; simp [e] at hkc)
        obtain ⟨av, c0, c1, c2, c3, hav⟩ := hcells k hkc
        have HC : Hd (fs[k]? = some fs[k]) := List.getElem?_eq_getElem hkc
        have HCF : Hd (FineC fs[k].code) := HFI.out.2 _ (List.getElem_mem hkc)
        generalize fs[k] = f at *
        have q0 := (HF1.out.cell (o := ao + k * 4) hak (fun e => e)).trans c0
        have q1 := (HF1.out.cell (o := ao + k * 4 + 1) hak (fun e => e)).trans c1
        have q2 := (HF1.out.cell (o := ao + k * 4 + 2) hak (fun e => e)).trans c2
        have q3 := (HF1.out.cell (o := ao + k * 4 + 3) hak (fun e => e)).trans c3
        have HAV : Hd (CA w av f.code) := hav
        obtain ⟨aa, ac, rfl, -⟩ := id hav
        clear hcells c0 c1 c2 c3 hav
        go_wp2_with fail
        refine (show Calls Tryz.prog 16 #[.agg #[vI f.P, vI f.R, vI f.V, .slice aa f.code.length ac]] w1 _ from wideFunc_any f.P f.R f.V _ f.code w1 (HAV.out.stay HF1.out) HCF.out).mono ?_
        rintro e w3 ⟨v3, rfl, hv3, hF3⟩
        have HR3 : Hd (Rws w3 46 4 (H + 2) (n + 64) (at1 (fun i => if i < k then wideF fs cv i else zeroF) k markF)) := HR1.out.fr hF3 (fun e => e)
        have HV3 : Hd (WC w3 w.heap.size v3 f.code) := hv3.mono HF1.out.size
        have HG3 : Hd (∀ j, v3.ownBlock = some j → w1.heap.size ≤ j) := fun j e => (hv3.ge j e).1
        have HF3 : Hd (Fr (fun _ => False) w w3) := HF1.out.trans hF3
        have HW3 : Hd (∀ i f, i < k → fs[i]? = some f → WC w3 w.heap.size (cv i) f.code) := fun i f hi hf => (HW1.out i f hi hf).stay hF3
        have HL3 : Hd (∀ i f, i < k → fs[i]? = some f → ∀ j, (cv i).ownBlock = some j → j < w1.heap.size) := fun i f hi hf j e => ((HW1.out i f hi hf).ge j e).2
        have B13 : Hd (w3.heap[H]? = some (.cells #[vI G, .slice (some ⟨ak, ao, none⟩) n cp] 24)) := (hF3.block H (heap_lt B11.out) (fun e => e)).trans B11.out
        have B23 : Hd (w3.heap[H + 1]? = some (.cells #[vI 0, .slice none 0 0] 24)) := (hF3.block (H + 1) (heap_lt B21.out) (fun e => e)).trans B21.out
        obtain ⟨g3, ps3, e3, -⟩ := id hv3
        subst e3
        clear hv3 hF3 HR1 HF1 HW1 q0 q1 q2 q3 B11 B21 u1
        have pc := fun o (ho : o < 4) => HR3.out.cell (i := k) (o := o) hlt ho
        rw [at1_self] at pc
        have p0 := pc 0 (by omega)
        have p1 := pc 1 (by omega)
        have p2 := pc 2 (by omega)
        have p3 := pc 3 (by omega)
        simp only [Nat.add_zero, List.getD_cons_zero, List.getD_cons_succ] at p0 p1 p2 p3
        have z0 := HR3.out.frozen (k * 4)
        have z1 := HR3.out.frozen (k * 4 + 1)
        have z2 := HR3.out.frozen (k * 4 + 2)
        have z3 := HR3.out.frozen (k * 4 + 3)
        clear pc
        obtain ⟨v3, hv3⟩ : ∃ v3, v3 = Value.slice (some ⟨g3, 0, none⟩) f.code.length (f.code.length + 64) := ⟨_, rfl⟩
        have HE3 : Hd (v3 = Value.slice (some ⟨g3, 0, none⟩) f.code.length (f.code.length + 64)) := hv3
        rw [← hv3] at HV3 HG3
        have hFs : Fr (fun j => j = H + 2) w3 (fou4 w3 (H + 2) (k * 4) (fR f v3)) := fou4_fr _ _ _ _
        have HR4 : Hd (Rws (fou4 w3 (H + 2) (k * 4) (fR f v3)) 46 4 (H + 2) (n + 64) (fun i => if i < k + 1 then wideF fs (at1 cv k v3) i else zeroF)) := by
          have := HR3.out.set4 (i := k) hlt (by rw [at1_self]; rfl) (fR f v3) rfl
          rw [at1_at1] at this
          refine this.congr (fun i _ => ?_)
          by_cases e : i = k
          · subst e
            rw [at1_self, if_pos (by omega)]
            unfold wideF
            rw [HC.out, at1_self]
          · rw [at1_ne _ _ e]
            by_cases hi : i < k
            · rw [if_pos hi, if_pos (by omega)]
              unfold wideF
              rw [at1_ne _ _ e]
            · rw [if_neg hi, if_neg (by omega)]
        have HF4 : Hd (Fr (fun _ => False) w (fou4 w3 (H + 2) (k * 4) (fR f v3))) := HF3.out.then hFs (fun j hj e => by have := HH.out; omega)
        have HW4 : Hd (∀ i h, i < k + 1 → fs[i]? = some h → WC (fou4 w3 (H + 2) (k * 4) (fR f v3)) w.heap.size (at1 cv k v3 i) h.code) := fun i h hi hf => by
          by_cases e : i = k
          · subst e
            rw [HC.out] at hf
            cases hf
            rw [at1_self]
            exact HV3.out.at HR3.out hFs
          · rw [at1_ne _ _ e]
            exact (HW3.out i h (by omega) hf).at HR3.out hFs
        have HA4 : Hd (∀ i j, i < k + 1 → j < k + 1 → i < n → j < n → i ≠ j → (at1 cv k v3 i).ownBlock ≠ (at1 cv k v3 j).ownBlock) := fun i j hi hj hi2 hjn hne => by
          have hbl : ∀ i, i < k → i < n → ∃ b, (cv i).ownBlock = some b ∧ b < w1.heap.size := fun i hi hin => by
            have hi2 : i < fs.length := by have := HN.out; omega
            obtain ⟨g', ps', e', -⟩ := HW3.out i fs[i] hi (List.getElem?_eq_getElem hi2)
            refine ⟨g', by rw [e']; rfl, HL3.out i fs[i] hi (List.getElem?_eq_getElem hi2) g' (by rw [e']; rfl)⟩
          have h3 : ∃ b, v3.ownBlock = some b ∧ w1.heap.size ≤ b := ⟨g3, by rw [HE3.out]; rfl, HG3.out g3 (by rw [HE3.out]; rfl)⟩
          obtain ⟨b3, e3, hb3⟩ := h3
          by_cases ei : i = k
          · subst ei
            rw [at1_self, at1_ne _ _ (Ne.symm hne), e3]
            obtain ⟨b, eb, hb⟩ := hbl j (by omega) hjn
            rw [eb]
            intro e; cases e; omega
          · by_cases ej : j = k
            · subst ej
              rw [at1_self, at1_ne _ _ ei, e3]
              obtain ⟨b, eb, hb⟩ := hbl i (by omega) hi2
              rw [eb]
              intro e; cases e; omega
            · rw [at1_ne _ _ ei, at1_ne _ _ ej]
              exact HA.out i j (by omega) (by omega) hi2 hjn hne
        have B14 : Hd ((fou4 w3 (H + 2) (k * 4) (fR f v3)).heap[H]? = some (.cells #[vI G, .slice (some ⟨ak, ao, none⟩) n cp] 24)) := (hFs.block H (heap_lt B13.out) (by omega)).trans B13.out
        have B24 : Hd ((fou4 w3 (H + 2) (k * 4) (fR f v3)).heap[H + 1]? = some (.cells #[vI 0, .slice none 0 0] 24)) := (hFs.block (H + 1) (heap_lt B23.out) (by omega)).trans B23.out
        clear hFs HR3 HF3 HW3 HA HG3 HL3 B13 B23 HV3
        subst hv3
        go_upto_region 4 with fail
        change Code.wp Tryz.prog _ _ _ (fou4 w3 (H + 2) (k * 4) (fR f (.slice (some ⟨g3, 0, none⟩) f.code.length (f.code.length + 64))))
        clear p0 p1 p2 p3 z0 z1 z2 z3
        generalize fou4 w3 (H + 2) (k * 4) (fR f (.slice (some ⟨g3, 0, none⟩) f.code.length (f.code.length + 64))) = w4 at *
        go_wp2_with fail
        exact ⟨⟨k + 1, _, by simp, by omega, HR4.out, HW4.out, HA4.out, B14.out, B24.out, HF4.out⟩, by simp; omega⟩
      · have d1 : decide ((k : Int) < n) = false := by simp; omega
        have HR2 : Hd (Rws w1 46 4 (H + 2) (n + 64) (fun i => if i < k + 1 then wideF fs cv i else zeroF)) := by
          refine HR1.out.congr (fun i _ => ?_)
          by_cases e : i = k
          · subst e; rw [at1_self, if_pos (by omega)]; unfold wideF; rw [List.getElem?_eq_none (by have := HN.out; omega)]
          · rw [at1_ne _ _ e]
            by_cases hi : i < k
            · rw [if_pos hi, if_pos (by omega)]
            · rw [if_neg hi, if_neg (by omega)]
        have HW2 : Hd (∀ i f, i < k + 1 → fs[i]? = some f → WC w1 w.heap.size (cv i) f.code) := fun i f hi hf => HW1.out i f (by have := (List.getElem?_eq_some_iff.1 hf).1; have := HN.out; omega) hf
        have HA2 : Hd (∀ i j, i < k + 1 → j < k + 1 → i < n → j < n → i ≠ j → (cv i).ownBlock ≠ (cv j).ownBlock) := fun i j hi hj hin hjn => HA.out i j (by omega) (by omega) hin hjn
        clear HR1 HW1 HA
        go_wp2_with fail
        exact ⟨⟨k + 1, cv, by simp, by omega, HR2.out, HW2.out, HA2.out, B11.out, B21.out, HF1.out⟩, by simp; omega⟩
    · have hke : k = n + 64 := by omega
      subst hke
      have hn0 : (0 : Int) ≤ n := by omega
      have hn1 : (n : Int) ≤ (n : Int) + 64 := by omega
      have u0 : wr.cell? ⟨H, 0, none⟩ = some (vI G) := by rw [cell_of B1.out]; rfl
      have r0 : wr.cell? ⟨H + 1, 0, none⟩ = some (vI 0) := by rw [cell_of B2.out]; rfl
      have r1 : wr.cell? ⟨H + 1, 1, none⟩ = some (.slice none 0 0) := by rw [cell_of B2.out]; rfl
      have y0 := frozen_of B2.out 0
      have y1 := frozen_of B2.out 1
      obtain ⟨v2, hv2⟩ : ∃ v2, v2 = Value.slice (some ⟨H + 2, 0, none⟩) n (n + 64) := ⟨_, rfl⟩
      have HV : Hd (v2 = Value.slice (some ⟨H + 2, 0, none⟩) n (n + 64)) := hv2
      have f1 : Fr (fun j => j = H + 1) wr (((wr.setCell ⟨H + 1, 0, none⟩ (vI G)).setCell ⟨H + 1, 1, none⟩ v2).drew) := ((Fr.setCell (S := fun j => j = H + 1) (Fr.setCell (S := fun j => j = H + 1) (Fr.refl _ wr) _ _ (Or.inl rfl)) _ _ (Or.inl rfl))).drew
      have HB3 : Hd ((((wr.setCell ⟨H + 1, 0, none⟩ (vI G)).setCell ⟨H + 1, 1, none⟩ v2).drew).heap[H + 1]? = some (.cells #[vI G, v2] 24)) := set_of (set_of B2.out 0 (vI G)) 1 v2
      have HX : Hd (WF (((wr.setCell ⟨H + 1, 0, none⟩ (vI G)).setCell ⟨H + 1, 1, none⟩ v2).drew) w.heap.size v2 fs (H + 2) cv) := by
        have nb : ∀ (o : Obj), wr.heap[H + 1]? = some o → o = .cells #[vI 0, .slice none 0 0] 24 := fun o e => by rw [B2.out] at e; exact (Option.some.inj e).symm
        refine ⟨by rw [HV.out, ← HN.out], by have := HH.out; omega, ?_, fun i f hf => ?_, fun i j hi hj => HA.out i j (by have := HN.out; omega) (by have := HN.out; omega) (by have := HN.out; omega) (by have := HN.out; omega)⟩
        · rw [← HN.out]
          exact (HR.out.congr (fun i hi => by rw [if_pos hi])).fr f1 (by omega)
        · have hi : i < n := by have := (List.getElem?_eq_some_iff.1 hf).1; have := HN.out; omega
          obtain ⟨g', ps, e, h1, h2, h3⟩ := HW.out i f (by omega) hf
          have n1 : g' ≠ H + 1 := fun e2 => by
            subst e2
            obtain ⟨cs, h4, -⟩ := h2
            cases nb _ h4
          have n2 : ∀ (v : Value) (l : List Int), WI wr w.heap.size v l → ∀ k, v.ownBlock = some k → ¬ (k = H + 1) := fun v l hv k ek e2 => by
            subst e2
            obtain ⟨g'', rfl, -, cs, h4, -⟩ := hv
            cases ek
            cases nb _ h4
          exact ⟨g', ps, e, h1, h2.fr f1 n1, fun i c hc => ⟨(h3 i c hc).1.fr f1 (n2 _ _ (h3 i c hc).1), (h3 i c hc).2.fr f1 (n2 _ _ (h3 i c hc).2)⟩⟩
      have HFX : Hd (Fr (fun _ => False) w (((wr.setCell ⟨H + 1, 0, none⟩ (vI G)).setCell ⟨H + 1, 1, none⟩ v2).drew)) := HF.out.then f1 (fun j hj e => by have := HH.out; omega)
      clear f1 HR HW HA hv2
      go_upto_region 8 with fail
      refine wp_region_still_tail 8 mixed (by kernel_rfl) ?_
      simp only [List.take_succ_cons, List.take_zero, List.drop_succ_cons, List.drop_zero]
      repeat still_step
      refine wpStill_nil ?_
      go_wp2_with fail
      rw [← HV.out]
      generalize ((wr.setCell ⟨H + 1, 0, none⟩ (vI G)).setCell ⟨H + 1, 1, none⟩ v2).drew = wz at *
      have c0 : wz.cell? ⟨H + 1, 0, none⟩ = some (vI G) := by rw [cell_of HB3.out]; rfl
      have c1 : wz.cell? ⟨H + 1, 1, none⟩ = some v2 := by rw [cell_of HB3.out]; rfl
      refine bodyPost_ret (v := .agg #[vI G, v2]) ?_ rfl ⟨v2, H + 2, cv, rfl, HX.out, HFX.out⟩
      rw [results_cell (p := 2) (ty := 24) Tryz.results5]
      simp [go_sem, c0, c1]
def SsA (w : World) (v : Value) (ss : List PS) : Prop :=
  ∃ a c, v = .slice a ss.length c ∧ (ss ≠ [] → ∃ k o, a = some ⟨k, o, none⟩ ∧ k < w.heap.size ∧ ∀ j (h : j < ss.length), ∃ hv rv, w.cell? ⟨k, o + j * 2, none⟩ = some hv ∧ w.cell? ⟨k, o + j * 2 + 1, none⟩ = some rv ∧ IA w hv ss[j].H ∧ LA w rv ss[j].R)
theorem SsA.stay {w w' : World} {v : Value} {ss : List PS} (h : SsA w v ss) (f : Fr (fun _ => False) w w') : SsA w' v ss := by
  obtain ⟨a, c, rfl, h⟩ := h
  refine ⟨a, c, rfl, fun hne => ?_⟩
  obtain ⟨k, o, rfl, hk, hc⟩ := h hne
  refine ⟨k, o, rfl, Nat.lt_of_lt_of_le hk f.size, fun j hj => ?_⟩
  obtain ⟨x, y, h1, h2, h3, h4⟩ := hc j hj
  exact ⟨x, y, (f.cell hk (fun h => h)).trans h1, (f.cell hk (fun h => h)).trans h2, h3.stay f, h4.stay f⟩
def FineS (ss : List PS) : Prop := ss.length ≤ 2932031007317 ∧ ∀ s ∈ ss, s.H.length ≤ 17592186043904 ∧ s.R.length ≤ 5864062014634 ∧ ∀ l ∈ s.R, l.length ≤ 17592186043904
def fitI (fs : List PF) (ss : List PS) (x : PI) : Bool := if x.op = 11 then fitsX (ss.getD x.n.toNat ⟨[], []⟩) (fs.getD x.n.toNat ⟨0, 0, 0, []⟩).P (fs.getD x.n.toNat ⟨0, 0, 0, []⟩).R else true
def toldX (fs : List PF) (ss : List PS) (c : List PI) : Bool := c.all (fitI fs ss)
theorem told_any (G : Int) (fv sv : Value) (fs : List PF) (ss : List PS) (i : Nat) (hi : i < fs.length) (w : World) (h1 : FA w fv fs) (h2 : SsA w sv ss) (hls : ss.length = fs.length) (b1 : FineP fs) (b2 : FineS ss)
    (hcall : ∀ c ∈ fs[i].code, c.op = 11 → 0 ≤ c.n ∧ c.n < fs.length) :
    Calls Tryz.prog 20 #[.agg #[vI G, fv], vI (i : Int), sv] w fun e w' => e = .returned (.bool (toldX fs ss fs[i].code)) ∧ Fr (fun _ => False) w w' := by
  obtain ⟨W, hW⟩ : ∃ W, W = w.alloc (.cells #[vI G, fv] 24) := ⟨_, rfl⟩
  have HW : Hd (W = w.alloc (.cells #[vI G, fv] 24)) := hW
  have hF : Fr (fun _ => False) w W := by rw [hW]; exact Fr.alloc (Fr.refl _ w) _
  have k1 : W.heap[w.heap.size]? = some (.cells #[vI G, fv] 24) := by rw [hW]; exact heap_new w _
  obtain ⟨X, hX⟩ : ∃ X, X = w.heap.size := ⟨_, rfl⟩
  have HX : Hd (X = w.heap.size) := hX
  rw [← hX] at k1
  have K1 : Hd (W.heap[X]? = some (.cells #[vI G, fv] 24)) := k1
  have H1 : Hd (FA W fv fs) := h1.stay hF
  have H2 : Hd (SsA W sv ss) := h2.stay hF
  have HF : Hd (Fr (fun _ => False) w W) := hF
  have HBP : Hd (FineP fs) := b1
  have HBS : Hd (FineS ss) := b2
  have HLS : Hd (ss.length = fs.length) := hls
  clear hls
  have HCL : Hd (∀ c ∈ fs[i].code, c.op = 11 → 0 ≤ c.n ∧ c.n < fs.length) := hcall
  obtain ⟨fa, fc, efv, hfs⟩ := h1.stay hF
  obtain ⟨fk, fo, efa, hfk, hfc⟩ := hfs (by intro e; rw [e] at hi; simp at hi)
  obtain ⟨cv, f0, f1, f2, f3, hcv⟩ := hfc i hi
  obtain ⟨sa, sc, esv, -⟩ := h2
  subst efa efv esv
  have HCV : Hd (CA W cv fs[i].code) := hcv
  obtain ⟨ca, cc, ecv, -⟩ := hcv
  subst ecv
  have hi0 : (0 : Int) ≤ i := by omega
  have hi1 : (i : Int) < fs.length := by omega
  have d0 : W.cell? ⟨X, 0, none⟩ = some (vI G) := by rw [cell_of k1]; rfl
  have d1 : W.cell? ⟨X, 1, none⟩ = some (.slice (some ⟨fk, fo, none⟩) fs.length fc) := by rw [cell_of k1]; rfl
  have hm : fs[i].code.length ≤ 1599289640354 := (b1.2 fs[i] (List.getElem_mem hi)).1
  have HFI : Hd (∀ c ∈ fs[i].code, c.args.length ≤ 17592186043904 ∧ c.rets.length ≤ 17592186043904) := (b1.2 fs[i] (List.getElem_mem hi)).2
  clear hW hF k1 hX hfs hfc h1 b1 b2 hcall f0 f1 f2
  generalize fs[i].code = cs at *
  go_enter Tryz.func20, Tryz.ntmps20
  go_upto_region 1 with fail
  rw [← HW.out, ← HX.out]
  clear HW HX
  go_wp2_with fail
  clear d0 d1 f3
  go_loopw [16] (fun v wr => ∃ (k : Nat), v = .int .i64 k ∧ k ≤ cs.length ∧ Hd (Fr (fun _ => False) W wr) ∧ Hd ((cs.take k).all (fitI fs ss) = true)) (fun v _ => match v with | .int _ q => cs.length - q.toNat | _ => 0)
  case atStart => exact ⟨0, rfl, by omega, Fr.refl _ _, rfl⟩
  case round =>
    obtain ⟨k, rfl, hk, HFr, HA⟩ := hrel
    by_cases hlt : k < cs.length
    · obtain ⟨a', c', e', hcs⟩ := HCV.out.stay HFr.out
      cases e'
      obtain ⟨g, o, rfl, hg, hcs⟩ := hcs (by intro e; rw [e] at hlt; simp at hlt)
      obtain ⟨av, rv, c0, c1, c2, c3, c4, c5, c6, ha, hr⟩ := hcs k hlt
      obtain ⟨aa, ac, rfl, -⟩ := ha
      obtain ⟨ra, rc, rfl, -⟩ := hr
      have HS := all_take_succ cs (fitI fs ss) k hlt
      have HB : Hd (fitI fs ss cs[k] = false → cs.all (fitI fs ss) = false) := fun e => all_bad (p := fitI fs ss) hlt e
      have HN := HCL.out cs[k] (List.getElem_mem hlt)
      have hk0 : (0 : Int) ≤ k := by omega
      have hk1 : (k : Int) < cs.length := by omega
      clear hcs
      generalize cs[k] = x at *
      obtain ⟨V, hV⟩ : ∃ V, V = wr.alloc (.cells #[vI x.op, vI x.r, vI x.s, vI x.t, vI x.n, .slice aa x.args.length ac, .slice ra x.rets.length rc] 48) := ⟨_, rfl⟩
      have HV : Hd (V = wr.alloc (.cells #[vI x.op, vI x.r, vI x.s, vI x.t, vI x.n, .slice aa x.args.length ac, .slice ra x.rets.length rc] 48)) := hV
      have hFV : Fr (fun _ => False) wr V := by rw [hV]; exact Fr.alloc (Fr.refl _ wr) _
      have v1 : V.heap[wr.heap.size]? = some (.cells #[vI x.op, vI x.r, vI x.s, vI x.t, vI x.n, .slice aa x.args.length ac, .slice ra x.rets.length rc] 48) := by rw [hV]; exact heap_new wr _
      obtain ⟨Y, hY⟩ : ∃ Y, Y = wr.heap.size := ⟨_, rfl⟩
      have HY : Hd (Y = wr.heap.size) := hY
      rw [← hY] at v1
      have HFV : Hd (Fr (fun _ => False) W V) := HFr.out.trans hFV
      have y0 : V.cell? ⟨Y, 0, none⟩ = some (vI x.op) := by rw [cell_of v1]; rfl
      have y4 : V.cell? ⟨Y, 4, none⟩ = some (vI x.n) := by rw [cell_of v1]; rfl
      clear hV hFV v1 hY
      go_upto_region 4 with fail
      rw [← HV.out, ← HY.out]
      clear HV HY c0 c1 c2 c3 c4 c5 c6
      by_cases h11 : x.op = 11
      · obtain ⟨q, hq⟩ : ∃ q : Nat, x.n = q := ⟨x.n.toNat, by have := HN h11; omega⟩
        have hqf : q < fs.length := by have := HN h11; omega
        have hqs : q < ss.length := by have := HLS.out; omega
        have hfit : fitI fs ss x = fitsX ss[q] fs[q].P fs[q].R := by
          unfold fitI
          rw [if_pos h11, hq]
          simp [hqf, hqs]
        obtain ⟨a', c', e', hss⟩ := H2.out.stay HFV.out
        cases e'
        obtain ⟨sk, so, rfl, hsk, hss⟩ := hss (by intro e; rw [e] at hqs; simp at hqs)
        obtain ⟨hv, rv, s0, s1, hH, hR⟩ := hss q hqs
        obtain ⟨a', c', e', hff⟩ := H1.out.stay HFV.out
        cases e'
        obtain ⟨fk', fo', e', hfk', hff⟩ := hff (by intro e; rw [e] at hqf; simp at hqf)
        cases e'
        obtain ⟨cv, f0, f1, f2, f3, hcv⟩ := hff q hqf
        obtain ⟨na, nc, rfl, -⟩ := hcv
        have d1 : V.cell? ⟨X, 1, none⟩ = some (.slice (some ⟨fk, fo, none⟩) fs.length fc) := by rw [HFV.out.cell (heap_lt K1.out) (fun h => h), cell_of K1.out]; rfl
        obtain ⟨bs1, bs2, bs3⟩ := HBS.out.2 ss[q] (List.getElem_mem hqs)
        have hct := fits_any hv rv ss[q] fs[q].P fs[q].R fs[q].V na fs[q].code.length nc V.drew (hH.stay (Fr.refl (fun _ => False) V).drew) (hR.stay (Fr.refl (fun _ => False) V).drew) bs1 (by omega) bs3
        obtain ⟨ha, hc, rfl, -⟩ := hH
        obtain ⟨la, lc, rfl, -⟩ := hR
        rw [h11] at y0
        rw [hq] at y4
        have hq0 : (0 : Int) ≤ q := by omega
        have hq1 : (q : Int) < fs.length := by omega
        have hq2 : (q : Int) < ss.length := by omega
        clear hss hff HN
        generalize hfx : fitsX ss[q] fs[q].P fs[q].R = fx at *
        generalize fs[q] = fq at *
        generalize ss[q] = sq at *
        refine wp_region_still_tail 15 mixed (by kernel_rfl) ?_
        simp only [List.take_succ_cons, List.take_zero, List.drop_succ_cons, List.drop_zero]
        repeat still_step
        refine wpStill_nil ?_
        go_wp2_with fail
        refine hct.mono ?_
        rintro _ w6 ⟨rfl, hF6⟩
        have HF6 : Hd (Fr (fun _ => False) W w6) := HFV.out.trans (((Fr.refl (fun _ => False) V).drew).trans hF6)
        clear hct hF6 y0 y4 s0 s1 f0 f1 f2 f3 d1
        cases fx with
        | true =>
          have HT : Hd ((cs.take (k + 1)).all (fitI fs ss) = true) := by unfold Hd; rw [HS, HA.out, hfit]; rfl
          clear HS HB hfit hfx
          go_wp2_with fail
          exact ⟨⟨k + 1, by simp, by omega, HF6, HT⟩, by simp; omega⟩
        | false =>
          have HT : Hd (cs.all (fitI fs ss) = false) := HB.out hfit
          clear HS HB hfit hfx
          go_wp2_with fail
          go_ret
          exact ⟨by unfold toldX; rw [HT.out]; rfl, HF.out.trans HF6.out⟩
      · have e1 : (x.op == 11) = false := by simpa using h11
        have HT : Hd ((cs.take (k + 1)).all (fitI fs ss) = true) := by unfold Hd; rw [HS, HA.out]; unfold fitI; rw [if_neg h11]; rfl
        clear HS HB HN
        go_quiet (fail)
        go_wp2_with fail
        exact ⟨⟨k + 1, by simp, by omega, ⟨HFV.out.os, HFV.out.tape, HFV.out.output, HFV.out.size, HFV.out.block⟩, HT⟩, by simp; omega⟩
    · have hke : k = cs.length := by omega
      subst hke
      go_wp2_with fail
      go_ret
      have := HA.out
      rw [List.take_of_length_le (Nat.le_refl _)] at this
      exact ⟨by unfold toldX; rw [this]; rfl, HF.out.trans HFr.out⟩
theorem WF.stay {w w' : World} {B : Nat} {v : Value} {fs : List PF} {g : Nat} {cv : Nat → Value} (h : WF w B v fs g cv) (f : Fr (fun _ => False) w w') : WF w' B v fs g cv :=
  ⟨h.val, h.ge, h.row.fr f (fun e => e), fun i x hx => (h.code i x hx).stay f, h.apart⟩
theorem WF.fa {w : World} {B : Nat} {v : Value} {fs : List PF} {g : Nat} {cv : Nat → Value} (h : WF w B v fs g cv) : FA w v fs := by
  refine ⟨_, _, h.val, fun _ => ⟨g, 0, rfl, h.row.lt, fun j hj => ?_⟩⟩
  have pc := fun o (ho : o < 4) => h.row.cell (i := j) (o := o) (by omega) ho
  have e1 : wideF fs cv j = fR fs[j] (cv j) := by unfold wideF; rw [List.getElem?_eq_getElem hj]
  rw [e1] at pc
  rw [Nat.zero_add]
  exact ⟨cv j, pc 0 (by omega), pc 1 (by omega), pc 2 (by omega), pc 3 (by omega), (h.code j fs[j] (List.getElem?_eq_getElem hj)).ca⟩
theorem spareProgram_any (G : Int) (v : Value) (fs : List PF) (B g : Nat) (cv : Nat → Value) (w : World) (hl : WF w B v fs g cv) (hn : FineP fs) : Calls Tryz.prog 12 #[.agg #[vI G, v]] w fun e w' => e = .returned (.bool true) ∧ Fr (fun _ => False) w w' := by
  have hv := hl.val
  subst hv
  have hF1 : Fr (fun _ => False) w (w.alloc (.cells #[vI G, .slice (some ⟨g, 0, none⟩) fs.length (fs.length + 64)] 24)) := Fr.alloc (Fr.refl _ w) _
  have b1 : (w.alloc (.cells #[vI G, .slice (some ⟨g, 0, none⟩) fs.length (fs.length + 64)] 24)).heap[w.heap.size]? = some (.cells #[vI G, .slice (some ⟨g, 0, none⟩) fs.length (fs.length + 64)] 24) := heap_new w _
  have HF1 : Hd _ := hF1
  have HL : Hd (WF (w.alloc (.cells #[vI G, .slice (some ⟨g, 0, none⟩) fs.length (fs.length + 64)] 24)) B (.slice (some ⟨g, 0, none⟩) fs.length (fs.length + 64)) fs g cv) := hl.stay hF1
  have q1 : (w.alloc (.cells #[vI G, .slice (some ⟨g, 0, none⟩) fs.length (fs.length + 64)] 24)).cell? ⟨w.heap.size, 1, none⟩ = some (.slice (some ⟨g, 0, none⟩) fs.length (fs.length + 64)) := by rw [cell_of b1]; rfl
  have HFI : Hd (FineP fs) := hn
  have hn := hn.1
  clear hF1 b1 hl
  obtain ⟨n, hnl⟩ : ∃ n, n = fs.length := ⟨_, rfl⟩
  have HN : Hd (n = fs.length) := hnl
  rw [← hnl] at hn HL q1 HF1 ⊢
  clear hnl
  have hn0 : (0 : Int) ≤ (n : Int) + 64 := by omega
  have hn1 : (n : Int) + 64 ≤ ((n + 64 : Nat) : Int) := by omega
  have ht : ((n : Int) + 64).toNat = n + 64 := by omega
  obtain ⟨H, hH⟩ : ∃ H, H = w.heap.size := ⟨_, rfl⟩
  have HH : Hd (H = w.heap.size) := hH
  rw [← hH] at q1
  clear hH
  go_enter Tryz.func12, Tryz.ntmps12
  go_upto_region 1 with fail
  rw [← HH.out]
  generalize w.alloc (.cells #[vI G, .slice (some ⟨g, 0, none⟩) n (n + 64)] 24) = wa at *
  go_wp2_with fail
  go_loopw [4] (fun v wr => ∃ (k : Nat), v = .int .i64 k ∧ k ≤ n + 64 ∧ wr = wa) (fun v _ => match v with | .int _ q => n + 64 - q.toNat | _ => 0)
  case atStart => exact ⟨0, rfl, by omega, rfl⟩
  case round =>
    obtain ⟨k, rfl, hk, hwr⟩ := hrel
    subst hwr
    by_cases hlt : k < n + 64
    · have hk0 : (0 : Int) ≤ k := by omega
      have hk1 : (k : Int) < (n : Int) + 64 := by omega
      have hk3 : (k : Int) < ((n + 64 : Nat) : Int) := by omega
      have hkl : k < fs.length + 64 := by have := HN.out; omega
      have pc := fun o (ho : o < 4) => HL.out.row.cell (i := k) (o := o) hkl ho
      by_cases hin : k < n
      · have d1 : decide ((k : Int) < n) = true := by simp; omega
        have d2 : decide ((k : Int) ≥ n) = false := by simp; omega
        have hkc : k < fs.length := by have := HN.out; omega
        have e1 : wideF fs cv k = fR fs[k] (cv k) := by unfold wideF; rw [List.getElem?_eq_getElem hkc]
        rw [e1] at pc
        have p3 := pc 3 (by omega)
        simp only [List.getD_cons_zero, List.getD_cons_succ] at p3
        have HA : Hd (WC wr B (cv k) fs[k].code) := HL.out.code k fs[k] (List.getElem?_eq_getElem hkc)
        have HC : Hd (FineC fs[k].code) := HFI.out.2 _ (List.getElem_mem hkc)
        generalize fs[k] = f at *
        generalize cv k = x1 at *
        obtain ⟨g1, ps1, e1, -⟩ := id HA.out
        subst e1
        clear pc
        go_wp2_with fail
        refine (show Calls Tryz.prog 27 #[.slice (some ⟨g1, 0, none⟩) f.code.length (f.code.length + 64)] wr _ from spareCode_any _ f.code B wr HA.out HC.out).mono ?_
        rintro e w1 ⟨rfl, hw1⟩
        subst hw1
        go_wp2_with fail
        exact ⟨⟨k + 1, by simp, by omega, by trivial⟩, by simp; omega⟩
      · have d1 : decide ((k : Int) < n) = false := by simp; omega
        have d2 : decide ((k : Int) ≥ n) = true := by simp; omega
        have e1 : wideF fs cv k = markF := by unfold wideF; rw [List.getElem?_eq_none (by have := HN.out; omega)]
        rw [e1] at pc
        have p2 := pc 2 (by omega)
        have p3 := pc 3 (by omega)
        simp only [Nat.add_zero, List.getD_cons_zero, List.getD_cons_succ] at p2 p3
        clear pc
        go_wp2_with fail
        exact ⟨⟨k + 1, by simp, by omega, by trivial⟩, by simp; omega⟩
    · have hke : k = n + 64 := by omega
      subst hke
      go_wp2_with fail
      go_ret
      exact ⟨rfl, HF1.out⟩
end Go.Proofs.YtlmlmhinbkcpoaaGreatDoor
