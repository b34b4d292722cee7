import Derived.Test.YtingenonbkencaaDoorQLaJ
namespace Go.Proofs.YtingenonbkencaaDoor
open Go.RowKit (wrap32 wrap64)
set_option linter.unusedVariables false
set_option linter.unusedSimpArgs false

/-! ### functions -/
abbrev fR (f : PF) (cv : Value) : List Value := [vI f.P, vI f.R, vI f.V, cv]
abbrev markF : List Value := [vI 0, vI 0, vI (-77), .slice none 0 0]
abbrev zeroF : List Value := [vI 0, vI 0, vI 0, .slice none 0 0]
def wideF (fs : List PF) (cv : Nat → Value) (i : Nat) : List Value := match fs[i]? with | some f => fR f (cv i) | none => markF

/-- Functions that lie somewhere. -/
def FA (w : World) (v : Value) (fs : List PF) : Prop :=
  ∃ a cp, v = .slice a fs.length cp ∧ (fs ≠ [] → ∃ k o, a = some ⟨k, o, none⟩ ∧ k < w.heap.size ∧ ∀ j (h : j < fs.length), ∃ cv,
    w.cell? ⟨k, o + j * 4, none⟩ = some (vI fs[j].P) ∧ w.cell? ⟨k, o + j * 4 + 1, none⟩ = some (vI fs[j].R) ∧ w.cell? ⟨k, o + j * 4 + 2, none⟩ = some (vI fs[j].V) ∧ w.cell? ⟨k, o + j * 4 + 3, none⟩ = some cv ∧ CA w cv fs[j].code)
theorem FA.stay {w w' : World} {v : Value} {fs : List PF} (h : FA w v fs) (f : Fr (fun _ => False) w w') : FA w' v fs := by
  obtain ⟨a, cp, rfl, h⟩ := h
  refine ⟨a, cp, rfl, fun hne => ?_⟩
  obtain ⟨k, o, rfl, hk, hc⟩ := h hne
  refine ⟨k, o, rfl, Nat.lt_of_lt_of_le hk f.size, fun j hj => ?_⟩
  obtain ⟨cv, h1, h2, h3, h4, h5⟩ := hc j hj
  have g : ∀ o, w'.cell? ⟨k, o, none⟩ = w.cell? ⟨k, o, none⟩ := fun o => f.cell hk (fun h => h)
  exact ⟨cv, (g _).trans h1, (g _).trans h2, (g _).trans h3, (g _).trans h4, h5.stay f⟩

def FineP (fs : List PF) : Prop := fs.length ≤ 2932031007317 ∧ ∀ f ∈ fs, FineC f.code

/-- Functions of one's own, with marks behind. -/
structure WF (w : World) (B : Nat) (v : Value) (fs : List PF) (g : Nat) (cv : Nat → Value) : Prop where
  val : v = .slice (some ⟨g, 0, none⟩) fs.length (fs.length + 64)
  ge : B ≤ g
  row : Rws w 67 4 g (fs.length + 64) (wideF fs cv)
  code : ∀ i f, fs[i]? = some f → WC w B (cv i) f.code
  apart : ∀ i j, i < fs.length → j < fs.length → i ≠ j → (cv i).ownBlock ≠ (cv j).ownBlock

theorem WC.ne {w : World} {B g m : Nat} {t sz : Nat} {R : Nat → List Value} {v : Value} {cs : List PI} (h : WC w B v cs) (hR : Rws w t sz g m R) (ht : t ≠ 71) : ∀ k, v.ownBlock = some k → k ≠ g := by
  obtain ⟨g', ps, rfl, -, ⟨cs', h', -⟩, -⟩ := h
  obtain ⟨cs, h2, -⟩ := hR
  intro k e1 e2
  cases e1
  subst e2
  rw [h'] at h2
  cases h2
  exact ht rfl
/-- What is written is one block, of functions. -/
theorem WC.at {w w' : World} {B g m : Nat} {R : Nat → List Value} {v : Value} {cs : List PI} (h : WC w B v cs) (hR : Rws w 67 4 g m R) (f : Fr (fun k => k = g) w w') : WC w' B v cs := by
  have hne := h.ne hR (by decide)
  obtain ⟨g', ps, rfl, h1, h2, h3⟩ := h
  exact ⟨g', ps, rfl, h1, h2.fr f (hne g' rfl), fun i c hc => ⟨(h3 i c hc).1.fr f ((h3 i c hc).1.ne hR (by decide)), (h3 i c hc).2.fr f ((h3 i c hc).2.ne hR (by decide))⟩⟩

theorem under24 : Tryd.prog.underlying 24 = some (.slice 67) := by kernel_rfl
theorem make24 (n : Nat) (hn : n ≤ 3000000000000) (w : World) : (Instr.makeSlice 24 (.int .i64 n) (.int .i64 n)).run Tryd.prog w = .ok (.slice (some ⟨w.heap.size, 0, none⟩) n n) (w.alloc (.cells (madeCells zeroF.toArray (n * 4)) 67)) := by
  rw [run_make_of 24 67 (.agg zeroF.toArray) 4 48 under24 (by kernel_rfl) (by kernel_rfl) (by kernel_rfl) n (by omega) (by omega) w]
  rfl
theorem Rws.made4 (w : World) (m : Nat) : Rws (w.alloc (.cells (madeCells zeroF.toArray (m * 4)) 67)) 67 4 w.heap.size m (fun _ => zeroF) :=
  ⟨_, heap_new w _, by simp [madeCells], fun i o hi ho => by
    have hlt : i * 4 + o < m * 4 := by omega
    have e : (i * 4 + o) % 4 = o := by omega
    unfold madeCells
    simp only [Array.getElem?_map, Array.getElem?_range, hlt, if_true, Option.map_some]
    show some (zeroF.toArray[(i * 4 + o) % 4]!) = _
    rw [e]
    rcases (show o = 0 ∨ o = 1 ∨ o = 2 ∨ o = 3 by omega) with rfl | rfl | rfl | rfl <;> rfl⟩
theorem list4 {α : Type} : ∀ (l : List α), l.length = 4 → ∃ a b c d, l = [a, b, c, d]
  | [a, b, c, d], _ => ⟨a, b, c, d, rfl⟩
def fou4 (w : World) (g q : Nat) (x : List Value) : World :=
  (((w.setCell ⟨g, q, none⟩ (x.getD 0 undef)).setCell ⟨g, q + 1, none⟩ (x.getD 1 undef)).setCell ⟨g, q + 2, none⟩ (x.getD 2 undef)).setCell ⟨g, q + 3, none⟩ (x.getD 3 undef)
theorem Rws.set4 {w : World} {t g m : Nat} {R : Nat → List Value} (h : Rws w t 4 g m R) {i : Nat} (hi : i < m) (hl : (R i).length = 4) (x : List Value) (hx : x.length = 4) : Rws (fou4 w g (i * 4) x) t 4 g m (at1 R i x) := by
  have h0 := h.set1 (o := 0) hi (by omega) hl (x.getD 0 undef)
  have h1 := h0.set1 (i := i) (o := 1) hi (by omega) (by simp only [at1_self, List.length_set]; exact hl) (x.getD 1 undef)
  have h2 := h1.set1 (i := i) (o := 2) hi (by omega) (by simp only [at1_self, List.length_set]; exact hl) (x.getD 2 undef)
  have h3 := h2.set1 (i := i) (o := 3) hi (by omega) (by simp only [at1_self, List.length_set]; exact hl) (x.getD 3 undef)
  simp only [at1_at1, at1_self, Nat.add_zero] at h3
  obtain ⟨a, b, c, d, hR⟩ := list4 _ hl
  obtain ⟨x0, x1, x2, x3, rfl⟩ := list4 _ hx
  rw [hR] at h3
  simp only [List.set_cons_zero, List.set_cons_succ, List.getD_cons_zero, List.getD_cons_succ] at h3
  unfold fou4
  simp only [List.getD_cons_zero, List.getD_cons_succ]
  exact h3
theorem fou4_fr (w : World) (g q : Nat) (x : List Value) : Fr (fun k => k = g) w (fou4 w g q x) := by
  unfold fou4
  refine Fr.setCell (S := fun k => k = g) ?_ _ _ (Or.inl rfl)
  refine Fr.setCell (S := fun k => k = g) ?_ _ _ (Or.inl rfl)
  refine Fr.setCell (S := fun k => k = g) ?_ _ _ (Or.inl rfl)
  refine Fr.setCell (S := fun k => k = g) ?_ _ _ (Or.inl rfl)
  exact Fr.refl _ _

set_option maxRecDepth 100000 in
set_option maxHeartbeats 4000000 in
/-- WideProgram. -/
theorem wideProgram_any (G : Int) (v : Value) (fs : List PF) (w : World) (hl : FA w v fs) (hn : FineP fs) :
    Calls Tryd.prog 22 #[.agg #[vI G, v]] w fun e w' => ∃ v' g cv, e = .returned (.agg #[vI G, v']) ∧ WF w' w.heap.size v' fs g cv ∧ Fr (fun _ => False) w w' := by
  obtain ⟨a, cp, rfl, h0⟩ := hl
  have H0 : Hd _ := h0
  clear h0
  have HFI : Hd (FineP fs) := hn
  have hn := hn.1
  obtain ⟨n, hnl⟩ : ∃ n, n = fs.length := ⟨_, rfl⟩
  have HN : Hd (n = fs.length) := hnl
  rw [← hnl] at hn ⊢
  clear hnl
  obtain ⟨wa, hwa⟩ : ∃ wa, wa = (w.alloc (.cells #[vI G, .slice a n cp] 26)).alloc (.cells #[vI 0, .slice none 0 0] 26) := ⟨_, rfl⟩
  have hFa : Fr (fun _ => False) w wa := by rw [hwa]; exact Fr.alloc (Fr.alloc (Fr.refl _ w) _) _
  have hsz : wa.heap.size = w.heap.size + 2 := by rw [hwa]; simp
  have b1 : wa.heap[w.heap.size]? = some (.cells #[vI G, .slice a n cp] 26) := by
    rw [hwa, Go.RowKit.Below.heap_alloc _ _ _ (by simp)]
    exact heap_new w _
  have b2 : wa.heap[w.heap.size + 1]? = some (.cells #[vI 0, .slice none 0 0] 26) := by
    rw [hwa, show w.heap.size + 1 = (w.alloc (.cells #[vI G, .slice a n cp] 26)).heap.size by simp]
    exact heap_new _ _
  have hmk := make24 (n + 64) (by omega) wa
  have hcast : ((n + 64 : Nat) : Int) = (n : Int) + 64 := by omega
  rw [hcast, hsz] at hmk
  have HR : Hd (Rws (wa.alloc (.cells (madeCells zeroF.toArray ((n + 64) * 4)) 67)) 67 4 (w.heap.size + 2) (n + 64) (fun i => if i < 0 then wideF fs (fun _ => undef) i else zeroF)) := by
    have := (Rws.made4 wa (n + 64)).congr (R' := fun i => if i < 0 then wideF fs (fun _ => undef) i else zeroF) (fun i _ => by simp)
    rw [hsz] at this
    exact this
  have HF : Hd (Fr (fun _ => False) w (wa.alloc (.cells (madeCells zeroF.toArray ((n + 64) * 4)) 67))) := Fr.alloc hFa _
  have B1 : Hd ((wa.alloc (.cells (madeCells zeroF.toArray ((n + 64) * 4)) 67)).heap[w.heap.size]? = some (.cells #[vI G, .slice a n cp] 26)) := by
    unfold Hd; rw [Go.RowKit.Below.heap_alloc _ _ _ (by omega)]; exact b1
  have B2 : Hd ((wa.alloc (.cells (madeCells zeroF.toArray ((n + 64) * 4)) 67)).heap[w.heap.size + 1]? = some (.cells #[vI 0, .slice none 0 0] 26)) := by
    unfold Hd; rw [Go.RowKit.Below.heap_alloc _ _ _ (by omega)]; exact b2
  have HWA : Hd (wa = (w.alloc (.cells #[vI G, .slice a n cp] 26)).alloc (.cells #[vI 0, .slice none 0 0] 26)) := hwa
  obtain ⟨H, hH⟩ : ∃ H, H = w.heap.size := ⟨_, rfl⟩
  have HH : Hd (H = w.heap.size) := hH
  rw [← hH] at hmk HR B1 B2 b1 b2
  have q1 : wa.cell? ⟨H, 1, none⟩ = some (.slice a n cp) := by rw [cell_of b1]; rfl
  clear b1 b2 hFa hsz hH hwa
  go_enter Tryd.func22, Tryd.ntmps22
  go_upto_region 1 with fail
  rw [← HWA.out, ← HH.out]
  clear HWA
  go_wp2_with fail
  generalize wa.alloc (.cells (madeCells zeroF.toArray ((n + 64) * 4)) 67) = wb at *
  clear q1 hmk
  go_loopw [4] (fun v wr => ∃ (k : Nat) (cv : Nat → Value), v = .int .i64 k ∧ k ≤ n + 64 ∧ Hd (Rws wr 67 4 (H + 2) (n + 64) (fun i => if i < k then wideF fs cv i else zeroF)) ∧ Hd (∀ i f, i < k → fs[i]? = some f → WC wr w.heap.size (cv i) f.code) ∧ Hd (∀ i j, i < k → j < k → i < n → j < n → i ≠ j → (cv i).ownBlock ≠ (cv j).ownBlock) ∧ Hd (wr.heap[H]? = some (.cells #[vI G, .slice a n cp] 26)) ∧ Hd (wr.heap[H + 1]? = some (.cells #[vI 0, .slice none 0 0] 26)) ∧ Hd (Fr (fun _ => False) w wr)) (fun v _ => match v with | .int _ q => n + 64 - q.toNat | _ => 0)
  case atStart => exact ⟨0, fun _ => undef, rfl, Nat.zero_le _, HR.out, fun i c hi => absurd hi (Nat.not_lt_zero _), fun i j hi => absurd hi (Nat.not_lt_zero _), B1.out, B2.out, HF.out⟩
  case round =>
    clear HR HF B1 B2
    obtain ⟨k, cv, rfl, hk, HR, HW, HA, B1, B2, HF⟩ := hrel
    have u1 : wr.cell? ⟨H, 1, none⟩ = some (.slice a n cp) := by rw [cell_of B1.out]; rfl
    by_cases hlt : k < n + 64
    · have hk0 : (0 : Int) ≤ k := by omega
      have hk1 : (k : Int) < (n : Int) + 64 := by omega
      have pc := fun o (ho : o < 4) => HR.out.cell (i := k) (o := o) hlt ho
      rw [if_neg (Nat.lt_irrefl k)] at pc
      have p0 := pc 0 (by omega)
      have p1 := pc 1 (by omega)
      have p2 := pc 2 (by omega)
      have p3 := pc 3 (by omega)
      have z0 := HR.out.frozen (k * 4)
      have z1 := HR.out.frozen (k * 4 + 1)
      have z2 := HR.out.frozen (k * 4 + 2)
      have z3 := HR.out.frozen (k * 4 + 3)
      simp only [Nat.add_zero, List.getD_cons_zero, List.getD_cons_succ] at p0 p1 p2 p3
      clear pc
      have HR1 : Hd (Rws (fou4 wr (H + 2) (k * 4) markF) 67 4 (H + 2) (n + 64) (at1 (fun i => if i < k then wideF fs cv i else zeroF) k markF)) := HR.out.set4 hlt (by rw [if_neg (Nat.lt_irrefl k)]; rfl) markF rfl
      have hFs : Fr (fun j => j = H + 2) wr (fou4 wr (H + 2) (k * 4) markF) := fou4_fr _ _ _ _
      have HF1 : Hd (Fr (fun _ => False) w (fou4 wr (H + 2) (k * 4) markF)) := HF.out.then hFs (fun j hj e => by have := HH.out; omega)
      have HW1 : Hd (∀ i f, i < k → fs[i]? = some f → WC (fou4 wr (H + 2) (k * 4) markF) w.heap.size (cv i) f.code) := fun i f hi hf => (HW.out i f hi hf).at HR.out hFs
      have B11 : Hd ((fou4 wr (H + 2) (k * 4) markF).heap[H]? = some (.cells #[vI G, .slice a n cp] 26)) := (hFs.block H (heap_lt B1.out) (by omega)).trans B1.out
      have B21 : Hd ((fou4 wr (H + 2) (k * 4) markF).heap[H + 1]? = some (.cells #[vI 0, .slice none 0 0] 26)) := (hFs.block (H + 1) (heap_lt B2.out) (by omega)).trans B2.out
      clear hFs
      go_upto_region 6 with fail
      change Code.wp Tryd.prog _ _ _ (fou4 wr (H + 2) (k * 4) markF)
      clear p0 p1 p2 p3 z0 z1 z2 z3 HR HF HW B1 B2 u1
      generalize fou4 wr (H + 2) (k * 4) markF = w1 at *
      have u1 : w1.cell? ⟨H, 1, none⟩ = some (.slice a n cp) := by rw [cell_of B11.out]; rfl
      by_cases hin : k < n
      · have hk2 : (k : Int) < n := by omega
        have d1 : decide ((k : Int) < n) = true := by simpa using hk2
        have hkc : k < fs.length := by have := HN.out; omega
        obtain ⟨ak, ao, rfl, hak, hcells⟩ := H0.out (by intro e; simp [e] at hkc)
        obtain ⟨av, c0, c1, c2, c3, hav⟩ := hcells k hkc
        have HC : Hd (fs[k]? = some fs[k]) := List.getElem?_eq_getElem hkc
        have HCF : Hd (FineC fs[k].code) := HFI.out.2 _ (List.getElem_mem hkc)
        generalize fs[k] = f at *
        have q0 := (HF1.out.cell (o := ao + k * 4) hak (fun e => e)).trans c0
        have q1 := (HF1.out.cell (o := ao + k * 4 + 1) hak (fun e => e)).trans c1
        have q2 := (HF1.out.cell (o := ao + k * 4 + 2) hak (fun e => e)).trans c2
        have q3 := (HF1.out.cell (o := ao + k * 4 + 3) hak (fun e => e)).trans c3
        have HAV : Hd (CA w av f.code) := hav
        obtain ⟨aa, ac, rfl, -⟩ := id hav
        clear hcells c0 c1 c2 c3 hav
        go_wp2_with fail
        refine (show Calls Tryd.prog 51 #[.agg #[vI f.P, vI f.R, vI f.V, .slice aa f.code.length ac]] w1 _ from wideFunc_any f.P f.R f.V _ f.code w1 (HAV.out.stay HF1.out) HCF.out).mono ?_
        rintro e w3 ⟨v3, rfl, hv3, hF3⟩
        have HR3 : Hd (Rws w3 67 4 (H + 2) (n + 64) (at1 (fun i => if i < k then wideF fs cv i else zeroF) k markF)) := HR1.out.fr hF3 (fun e => e)
        have HV3 : Hd (WC w3 w.heap.size v3 f.code) := hv3.mono HF1.out.size
        have HG3 : Hd (∀ j, v3.ownBlock = some j → w1.heap.size ≤ j) := fun j e => (hv3.ge j e).1
        have HF3 : Hd (Fr (fun _ => False) w w3) := HF1.out.trans hF3
        have HW3 : Hd (∀ i f, i < k → fs[i]? = some f → WC w3 w.heap.size (cv i) f.code) := fun i f hi hf => (HW1.out i f hi hf).stay hF3
        have HL3 : Hd (∀ i f, i < k → fs[i]? = some f → ∀ j, (cv i).ownBlock = some j → j < w1.heap.size) := fun i f hi hf j e => ((HW1.out i f hi hf).ge j e).2
        have B13 : Hd (w3.heap[H]? = some (.cells #[vI G, .slice (some ⟨ak, ao, none⟩) n cp] 26)) := (hF3.block H (heap_lt B11.out) (fun e => e)).trans B11.out
        have B23 : Hd (w3.heap[H + 1]? = some (.cells #[vI 0, .slice none 0 0] 26)) := (hF3.block (H + 1) (heap_lt B21.out) (fun e => e)).trans B21.out
        obtain ⟨g3, ps3, e3, -⟩ := id hv3
        subst e3
        clear hv3 hF3 HR1 HF1 HW1 q0 q1 q2 q3 B11 B21 u1
        have pc := fun o (ho : o < 4) => HR3.out.cell (i := k) (o := o) hlt ho
        rw [at1_self] at pc
        have p0 := pc 0 (by omega)
        have p1 := pc 1 (by omega)
        have p2 := pc 2 (by omega)
        have p3 := pc 3 (by omega)
        simp only [Nat.add_zero, List.getD_cons_zero, List.getD_cons_succ] at p0 p1 p2 p3
        have z0 := HR3.out.frozen (k * 4)
        have z1 := HR3.out.frozen (k * 4 + 1)
        have z2 := HR3.out.frozen (k * 4 + 2)
        have z3 := HR3.out.frozen (k * 4 + 3)
        clear pc
        obtain ⟨v3, hv3⟩ : ∃ v3, v3 = Value.slice (some ⟨g3, 0, none⟩) f.code.length (f.code.length + 64) := ⟨_, rfl⟩
        have HE3 : Hd (v3 = Value.slice (some ⟨g3, 0, none⟩) f.code.length (f.code.length + 64)) := hv3
        rw [← hv3] at HV3 HG3
        have hFs : Fr (fun j => j = H + 2) w3 (fou4 w3 (H + 2) (k * 4) (fR f v3)) := fou4_fr _ _ _ _
        have HR4 : Hd (Rws (fou4 w3 (H + 2) (k * 4) (fR f v3)) 67 4 (H + 2) (n + 64) (fun i => if i < k + 1 then wideF fs (at1 cv k v3) i else zeroF)) := by
          have := HR3.out.set4 (i := k) hlt (by rw [at1_self]; rfl) (fR f v3) rfl
          rw [at1_at1] at this
          refine this.congr (fun i _ => ?_)
          by_cases e : i = k
          · subst e
            rw [at1_self, if_pos (by omega)]
            unfold wideF
            rw [HC.out, at1_self]
          · rw [at1_ne _ _ e]
            by_cases hi : i < k
            · rw [if_pos hi, if_pos (by omega)]
              unfold wideF
              rw [at1_ne _ _ e]
            · rw [if_neg hi, if_neg (by omega)]
        have HF4 : Hd (Fr (fun _ => False) w (fou4 w3 (H + 2) (k * 4) (fR f v3))) := HF3.out.then hFs (fun j hj e => by have := HH.out; omega)
        have HW4 : Hd (∀ i h, i < k + 1 → fs[i]? = some h → WC (fou4 w3 (H + 2) (k * 4) (fR f v3)) w.heap.size (at1 cv k v3 i) h.code) := fun i h hi hf => by
          by_cases e : i = k
          · subst e
            rw [HC.out] at hf
            cases hf
            rw [at1_self]
            exact HV3.out.at HR3.out hFs
          · rw [at1_ne _ _ e]
            exact (HW3.out i h (by omega) hf).at HR3.out hFs
        have HA4 : Hd (∀ i j, i < k + 1 → j < k + 1 → i < n → j < n → i ≠ j → (at1 cv k v3 i).ownBlock ≠ (at1 cv k v3 j).ownBlock) := fun i j hi hj hi2 hjn hne => by
          have hbl : ∀ i, i < k → i < n → ∃ b, (cv i).ownBlock = some b ∧ b < w1.heap.size := fun i hi hin => by
            have hi2 : i < fs.length := by have := HN.out; omega
            obtain ⟨g', ps', e', -⟩ := HW3.out i fs[i] hi (List.getElem?_eq_getElem hi2)
            refine ⟨g', by rw [e']; rfl, HL3.out i fs[i] hi (List.getElem?_eq_getElem hi2) g' (by rw [e']; rfl)⟩
          have h3 : ∃ b, v3.ownBlock = some b ∧ w1.heap.size ≤ b := ⟨g3, by rw [HE3.out]; rfl, HG3.out g3 (by rw [HE3.out]; rfl)⟩
          obtain ⟨b3, e3, hb3⟩ := h3
          by_cases ei : i = k
          · subst ei
            rw [at1_self, at1_ne _ _ (Ne.symm hne), e3]
            obtain ⟨b, eb, hb⟩ := hbl j (by omega) hjn
            rw [eb]
            intro e; cases e; omega
          · by_cases ej : j = k
            · subst ej
              rw [at1_self, at1_ne _ _ ei, e3]
              obtain ⟨b, eb, hb⟩ := hbl i (by omega) hi2
              rw [eb]
              intro e; cases e; omega
            · rw [at1_ne _ _ ei, at1_ne _ _ ej]
              exact HA.out i j (by omega) (by omega) hi2 hjn hne
        have B14 : Hd ((fou4 w3 (H + 2) (k * 4) (fR f v3)).heap[H]? = some (.cells #[vI G, .slice (some ⟨ak, ao, none⟩) n cp] 26)) := (hFs.block H (heap_lt B13.out) (by omega)).trans B13.out
        have B24 : Hd ((fou4 w3 (H + 2) (k * 4) (fR f v3)).heap[H + 1]? = some (.cells #[vI 0, .slice none 0 0] 26)) := (hFs.block (H + 1) (heap_lt B23.out) (by omega)).trans B23.out
        clear hFs HR3 HF3 HW3 HA HG3 HL3 B13 B23 HV3
        subst hv3
        go_upto_region 4 with fail
        change Code.wp Tryd.prog _ _ _ (fou4 w3 (H + 2) (k * 4) (fR f (.slice (some ⟨g3, 0, none⟩) f.code.length (f.code.length + 64))))
        clear p0 p1 p2 p3 z0 z1 z2 z3
        generalize fou4 w3 (H + 2) (k * 4) (fR f (.slice (some ⟨g3, 0, none⟩) f.code.length (f.code.length + 64))) = w4 at *
        go_wp2_with fail
        exact ⟨⟨k + 1, _, by simp, by omega, HR4.out, HW4.out, HA4.out, B14.out, B24.out, HF4.out⟩, by simp; omega⟩
      · have d1 : decide ((k : Int) < n) = false := by simp; omega
        have HR2 : Hd (Rws w1 67 4 (H + 2) (n + 64) (fun i => if i < k + 1 then wideF fs cv i else zeroF)) := by
          refine HR1.out.congr (fun i _ => ?_)
          by_cases e : i = k
          · subst e; rw [at1_self, if_pos (by omega)]; unfold wideF; rw [List.getElem?_eq_none (by have := HN.out; omega)]
          · rw [at1_ne _ _ e]
            by_cases hi : i < k
            · rw [if_pos hi, if_pos (by omega)]
            · rw [if_neg hi, if_neg (by omega)]
        have HW2 : Hd (∀ i f, i < k + 1 → fs[i]? = some f → WC w1 w.heap.size (cv i) f.code) := fun i f hi hf => HW1.out i f (by have := (List.getElem?_eq_some_iff.1 hf).1; have := HN.out; omega) hf
        have HA2 : Hd (∀ i j, i < k + 1 → j < k + 1 → i < n → j < n → i ≠ j → (cv i).ownBlock ≠ (cv j).ownBlock) := fun i j hi hj hin hjn => HA.out i j (by omega) (by omega) hin hjn
        clear HR1 HW1 HA
        go_wp2_with fail
        exact ⟨⟨k + 1, cv, by simp, by omega, HR2.out, HW2.out, HA2.out, B11.out, B21.out, HF1.out⟩, by simp; omega⟩
    · have hke : k = n + 64 := by omega
      subst hke
      have hn0 : (0 : Int) ≤ n := by omega
      have hn1 : (n : Int) ≤ (n : Int) + 64 := by omega
      have u0 : wr.cell? ⟨H, 0, none⟩ = some (vI G) := by rw [cell_of B1.out]; rfl
      have r0 : wr.cell? ⟨H + 1, 0, none⟩ = some (vI 0) := by rw [cell_of B2.out]; rfl
      have r1 : wr.cell? ⟨H + 1, 1, none⟩ = some (.slice none 0 0) := by rw [cell_of B2.out]; rfl
      have y0 := frozen_of B2.out 0
      have y1 := frozen_of B2.out 1
      obtain ⟨v2, hv2⟩ : ∃ v2, v2 = Value.slice (some ⟨H + 2, 0, none⟩) n (n + 64) := ⟨_, rfl⟩
      have HV : Hd (v2 = Value.slice (some ⟨H + 2, 0, none⟩) n (n + 64)) := hv2
      have f1 : Fr (fun j => j = H + 1) wr (((wr.setCell ⟨H + 1, 0, none⟩ (vI G)).setCell ⟨H + 1, 1, none⟩ v2).drew) := ((Fr.setCell (S := fun j => j = H + 1) (Fr.setCell (S := fun j => j = H + 1) (Fr.refl _ wr) _ _ (Or.inl rfl)) _ _ (Or.inl rfl))).drew
      have HB3 : Hd ((((wr.setCell ⟨H + 1, 0, none⟩ (vI G)).setCell ⟨H + 1, 1, none⟩ v2).drew).heap[H + 1]? = some (.cells #[vI G, v2] 26)) := set_of (set_of B2.out 0 (vI G)) 1 v2
      have HX : Hd (WF (((wr.setCell ⟨H + 1, 0, none⟩ (vI G)).setCell ⟨H + 1, 1, none⟩ v2).drew) w.heap.size v2 fs (H + 2) cv) := by
        have nb : ∀ (o : Obj), wr.heap[H + 1]? = some o → o = .cells #[vI 0, .slice none 0 0] 26 := fun o e => by rw [B2.out] at e; exact (Option.some.inj e).symm
        refine ⟨by rw [HV.out, ← HN.out], by have := HH.out; omega, ?_, fun i f hf => ?_, fun i j hi hj => HA.out i j (by have := HN.out; omega) (by have := HN.out; omega) (by have := HN.out; omega) (by have := HN.out; omega)⟩
        · rw [← HN.out]
          exact (HR.out.congr (fun i hi => by rw [if_pos hi])).fr f1 (by omega)
        · have hi : i < n := by have := (List.getElem?_eq_some_iff.1 hf).1; have := HN.out; omega
          obtain ⟨g', ps, e, h1, h2, h3⟩ := HW.out i f (by omega) hf
          have n1 : g' ≠ H + 1 := fun e2 => by
            subst e2
            obtain ⟨cs, h4, -⟩ := h2
            cases nb _ h4
          have n2 : ∀ (v : Value) (l : List Int), WI wr w.heap.size v l → ∀ k, v.ownBlock = some k → ¬ (k = H + 1) := fun v l hv k ek e2 => by
            subst e2
            obtain ⟨g'', rfl, -, cs, h4, -⟩ := hv
            cases ek
            cases nb _ h4
          exact ⟨g', ps, e, h1, h2.fr f1 n1, fun i c hc => ⟨(h3 i c hc).1.fr f1 (n2 _ _ (h3 i c hc).1), (h3 i c hc).2.fr f1 (n2 _ _ (h3 i c hc).2)⟩⟩
      have HFX : Hd (Fr (fun _ => False) w (((wr.setCell ⟨H + 1, 0, none⟩ (vI G)).setCell ⟨H + 1, 1, none⟩ v2).drew)) := HF.out.then f1 (fun j hj e => by have := HH.out; omega)
      clear f1 HR HW HA hv2
      go_upto_region 8 with fail
      refine wp_region_still_tail 8 mixed (by kernel_rfl) ?_
      simp only [List.take_succ_cons, List.take_zero, List.drop_succ_cons, List.drop_zero]
      repeat still_step
      refine wpStill_nil ?_
      go_wp2_with fail
      rw [← HV.out]
      generalize ((wr.setCell ⟨H + 1, 0, none⟩ (vI G)).setCell ⟨H + 1, 1, none⟩ v2).drew = wz at *
      have c0 : wz.cell? ⟨H + 1, 0, none⟩ = some (vI G) := by rw [cell_of HB3.out]; rfl
      have c1 : wz.cell? ⟨H + 1, 1, none⟩ = some v2 := by rw [cell_of HB3.out]; rfl
      refine bodyPost_ret (v := .agg #[vI G, v2]) ?_ rfl ⟨v2, H + 2, cv, rfl, HX.out, HFX.out⟩
      rw [results_cell (p := 2) (ty := 26) Tryd.results22]
      simp [go_sem, c0, c1]

end Go.Proofs.YtingenonbkencaaDoor

namespace Go.Proofs.YtingenonbkencaaDoor
open Go.RowKit (wrap32 wrap64)
set_option linter.unusedVariables false
set_option linter.unusedSimpArgs false

theorem WF.stay {w w' : World} {B : Nat} {v : Value} {fs : List PF} {g : Nat} {cv : Nat → Value} (h : WF w B v fs g cv) (f : Fr (fun _ => False) w w') : WF w' B v fs g cv :=
  ⟨h.val, h.ge, h.row.fr f (fun e => e), fun i x hx => (h.code i x hx).stay f, h.apart⟩
theorem WF.fa {w : World} {B : Nat} {v : Value} {fs : List PF} {g : Nat} {cv : Nat → Value} (h : WF w B v fs g cv) : FA w v fs := by
  refine ⟨_, _, h.val, fun _ => ⟨g, 0, rfl, h.row.lt, fun j hj => ?_⟩⟩
  have pc := fun o (ho : o < 4) => h.row.cell (i := j) (o := o) (by omega) ho
  have e1 : wideF fs cv j = fR fs[j] (cv j) := by unfold wideF; rw [List.getElem?_eq_getElem hj]
  rw [e1] at pc
  rw [Nat.zero_add]
  exact ⟨cv j, pc 0 (by omega), pc 1 (by omega), pc 2 (by omega), pc 3 (by omega), (h.code j fs[j] (List.getElem?_eq_getElem hj)).ca⟩

set_option maxRecDepth 100000 in
set_option maxHeartbeats 4000000 in
/-- SpareProgram. -/
theorem spareProgram_any (G : Int) (v : Value) (fs : List PF) (B g : Nat) (cv : Nat → Value) (w : World) (hl : WF w B v fs g cv) (hn : FineP fs) : Calls Tryd.prog 24 #[.agg #[vI G, v]] w fun e w' => e = .returned (.bool true) ∧ Fr (fun _ => False) w w' := by
  have hv := hl.val
  subst hv
  have hF1 : Fr (fun _ => False) w (w.alloc (.cells #[vI G, .slice (some ⟨g, 0, none⟩) fs.length (fs.length + 64)] 26)) := Fr.alloc (Fr.refl _ w) _
  have b1 : (w.alloc (.cells #[vI G, .slice (some ⟨g, 0, none⟩) fs.length (fs.length + 64)] 26)).heap[w.heap.size]? = some (.cells #[vI G, .slice (some ⟨g, 0, none⟩) fs.length (fs.length + 64)] 26) := heap_new w _
  have HF1 : Hd _ := hF1
  have HL : Hd (WF (w.alloc (.cells #[vI G, .slice (some ⟨g, 0, none⟩) fs.length (fs.length + 64)] 26)) B (.slice (some ⟨g, 0, none⟩) fs.length (fs.length + 64)) fs g cv) := hl.stay hF1
  have q1 : (w.alloc (.cells #[vI G, .slice (some ⟨g, 0, none⟩) fs.length (fs.length + 64)] 26)).cell? ⟨w.heap.size, 1, none⟩ = some (.slice (some ⟨g, 0, none⟩) fs.length (fs.length + 64)) := by rw [cell_of b1]; rfl
  have HFI : Hd (FineP fs) := hn
  have hn := hn.1
  clear hF1 b1 hl
  obtain ⟨n, hnl⟩ : ∃ n, n = fs.length := ⟨_, rfl⟩
  have HN : Hd (n = fs.length) := hnl
  rw [← hnl] at hn HL q1 HF1 ⊢
  clear hnl
  have hn0 : (0 : Int) ≤ (n : Int) + 64 := by omega
  have hn1 : (n : Int) + 64 ≤ ((n + 64 : Nat) : Int) := by omega
  have ht : ((n : Int) + 64).toNat = n + 64 := by omega
  obtain ⟨H, hH⟩ : ∃ H, H = w.heap.size := ⟨_, rfl⟩
  have HH : Hd (H = w.heap.size) := hH
  rw [← hH] at q1
  clear hH
  go_enter Tryd.func24, Tryd.ntmps24
  go_upto_region 1 with fail
  rw [← HH.out]
  generalize w.alloc (.cells #[vI G, .slice (some ⟨g, 0, none⟩) n (n + 64)] 26) = wa at *
  go_wp2_with fail
  go_loopw [4] (fun v wr => ∃ (k : Nat), v = .int .i64 k ∧ k ≤ n + 64 ∧ wr = wa) (fun v _ => match v with | .int _ q => n + 64 - q.toNat | _ => 0)
  case atStart => exact ⟨0, rfl, by omega, rfl⟩
  case round =>
    obtain ⟨k, rfl, hk, hwr⟩ := hrel
    subst hwr
    by_cases hlt : k < n + 64
    · have hk0 : (0 : Int) ≤ k := by omega
      have hk1 : (k : Int) < (n : Int) + 64 := by omega
      have hk3 : (k : Int) < ((n + 64 : Nat) : Int) := by omega
      have hkl : k < fs.length + 64 := by have := HN.out; omega
      have pc := fun o (ho : o < 4) => HL.out.row.cell (i := k) (o := o) hkl ho
      by_cases hin : k < n
      · have d1 : decide ((k : Int) < n) = true := by simp; omega
        have d2 : decide ((k : Int) ≥ n) = false := by simp; omega
        have hkc : k < fs.length := by have := HN.out; omega
        have e1 : wideF fs cv k = fR fs[k] (cv k) := by unfold wideF; rw [List.getElem?_eq_getElem hkc]
        rw [e1] at pc
        have p3 := pc 3 (by omega)
        simp only [List.getD_cons_zero, List.getD_cons_succ] at p3
        have HA : Hd (WC wr B (cv k) fs[k].code) := HL.out.code k fs[k] (List.getElem?_eq_getElem hkc)
        have HC : Hd (FineC fs[k].code) := HFI.out.2 _ (List.getElem_mem hkc)
        generalize fs[k] = f at *
        generalize cv k = x1 at *
        obtain ⟨g1, ps1, e1, -⟩ := id HA.out
        subst e1
        clear pc
        go_wp2_with fail
        refine (show Calls Tryd.prog 53 #[.slice (some ⟨g1, 0, none⟩) f.code.length (f.code.length + 64)] wr _ from spareCode_any _ f.code B wr HA.out HC.out).mono ?_
        rintro e w1 ⟨rfl, hw1⟩
        subst hw1
        go_wp2_with fail
        exact ⟨⟨k + 1, by simp, by omega, by trivial⟩, by simp; omega⟩
      · have d1 : decide ((k : Int) < n) = false := by simp; omega
        have d2 : decide ((k : Int) ≥ n) = true := by simp; omega
        have e1 : wideF fs cv k = markF := by unfold wideF; rw [List.getElem?_eq_none (by have := HN.out; omega)]
        rw [e1] at pc
        have p2 := pc 2 (by omega)
        have p3 := pc 3 (by omega)
        simp only [Nat.add_zero, List.getD_cons_zero, List.getD_cons_succ] at p2 p3
        clear pc
        go_wp2_with fail
        exact ⟨⟨k + 1, by simp, by omega, by trivial⟩, by simp; omega⟩
    · have hke : k = n + 64 := by omega
      subst hke
      go_wp2_with fail
      go_ret
      exact ⟨rfl, HF1.out⟩

end Go.Proofs.YtingenonbkencaaDoor

namespace Go.Proofs.YtingenonbkencaaDoor
open Go.RowKit (wrap32 wrap64)
set_option linter.unusedVariables false
set_option linter.unusedSimpArgs false

set_option maxRecDepth 100000 in
set_option maxHeartbeats 2000000 in
theorem eqInstr_same (c : PI) (x1 y1 x2 y2 : Value) (w : World) (h1 : IA w x1 c.args) (h2 : IA w y1 c.rets) (h3 : IA w x2 c.args) (h4 : IA w y2 c.rets) (hla : c.args.length ≤ 17592186043904) (hlr : c.rets.length ≤ 17592186043904) :
    Calls Tryd.prog 102 #[.agg #[vI c.op, vI c.r, vI c.s, vI c.t, vI c.n, x1, y1], .agg #[vI c.op, vI c.r, vI c.s, vI c.t, vI c.n, x2, y2]] w fun e w' => e = .returned (.bool true) ∧ Fr (fun _ => False) w w' := by
  obtain ⟨a1, b1, e1, -⟩ := id h1
  obtain ⟨a2, b2, e2, -⟩ := id h2
  obtain ⟨a3, b3, e3, -⟩ := id h3
  obtain ⟨a4, b4, e4, -⟩ := id h4
  have hF : Fr (fun _ => False) w ((w.alloc (.cells #[vI c.op, vI c.r, vI c.s, vI c.t, vI c.n, x1, y1] 71)).alloc (.cells #[vI c.op, vI c.r, vI c.s, vI c.t, vI c.n, x2, y2] 71)) := Fr.alloc (Fr.alloc (Fr.refl _ w) _) _
  have HB1 : Hd (((w.alloc (.cells #[vI c.op, vI c.r, vI c.s, vI c.t, vI c.n, x1, y1] 71)).alloc (.cells #[vI c.op, vI c.r, vI c.s, vI c.t, vI c.n, x2, y2] 71)).heap[w.heap.size]? = some (.cells #[vI c.op, vI c.r, vI c.s, vI c.t, vI c.n, x1, y1] 71)) := by
    unfold Hd; rw [Go.RowKit.Below.heap_alloc _ _ _ (by simp)]; exact heap_new w _
  have HB2 : Hd (((w.alloc (.cells #[vI c.op, vI c.r, vI c.s, vI c.t, vI c.n, x1, y1] 71)).alloc (.cells #[vI c.op, vI c.r, vI c.s, vI c.t, vI c.n, x2, y2] 71)).heap[w.heap.size + 1]? = some (.cells #[vI c.op, vI c.r, vI c.s, vI c.t, vI c.n, x2, y2] 71)) := by
    unfold Hd; rw [show w.heap.size + 1 = (w.alloc (.cells #[vI c.op, vI c.r, vI c.s, vI c.t, vI c.n, x1, y1] 71)).heap.size by simp]; exact heap_new _ _
  have H1 := h1.stay hF
  have H2 := h2.stay hF
  have H3 := h3.stay hF
  have H4 := h4.stay hF
  have G1 : Hd _ := H1
  have G2 : Hd _ := H2
  have G3 : Hd _ := H3
  have G4 : Hd _ := H4
  have HF : Hd _ := hF
  clear h1 h2 h3 h4 H1 H2 H3 H4 hF
  subst e1; subst e2; subst e3; subst e4
  have q0 : (c.op == c.op) = true := by simp
  have q1 : (c.r == c.r) = true := by simp
  have q2 : (c.s == c.s) = true := by simp
  have q3 : (c.t == c.t) = true := by simp
  have q4 : (c.n == c.n) = true := by simp
  go_enter Tryd.func102, Tryd.ntmps102
  go_upto_region 1 with fail
  generalize (w.alloc (.cells #[vI c.op, vI c.r, vI c.s, vI c.t, vI c.n, .slice a1 c.args.length b1, .slice a2 c.rets.length b2] 71)).alloc (.cells #[vI c.op, vI c.r, vI c.s, vI c.t, vI c.n, .slice a3 c.args.length b3, .slice a4 c.rets.length b4] 71) = wa at *
  have c0 : wa.cell? ⟨w.heap.size, 0, none⟩ = some (vI c.op) := by rw [cell_of HB1.out]; rfl
  have c1 : wa.cell? ⟨w.heap.size, 1, none⟩ = some (vI c.r) := by rw [cell_of HB1.out]; rfl
  have c2 : wa.cell? ⟨w.heap.size, 2, none⟩ = some (vI c.s) := by rw [cell_of HB1.out]; rfl
  have c3 : wa.cell? ⟨w.heap.size, 3, none⟩ = some (vI c.t) := by rw [cell_of HB1.out]; rfl
  have c4 : wa.cell? ⟨w.heap.size, 4, none⟩ = some (vI c.n) := by rw [cell_of HB1.out]; rfl
  have c5 : wa.cell? ⟨w.heap.size, 5, none⟩ = some (.slice a1 c.args.length b1) := by rw [cell_of HB1.out]; rfl
  have d0 : wa.cell? ⟨w.heap.size + 1, 0, none⟩ = some (vI c.op) := by rw [cell_of HB2.out]; rfl
  have d1 : wa.cell? ⟨w.heap.size + 1, 1, none⟩ = some (vI c.r) := by rw [cell_of HB2.out]; rfl
  have d2 : wa.cell? ⟨w.heap.size + 1, 2, none⟩ = some (vI c.s) := by rw [cell_of HB2.out]; rfl
  have d3 : wa.cell? ⟨w.heap.size + 1, 3, none⟩ = some (vI c.t) := by rw [cell_of HB2.out]; rfl
  have d4 : wa.cell? ⟨w.heap.size + 1, 4, none⟩ = some (vI c.n) := by rw [cell_of HB2.out]; rfl
  have d5 : wa.cell? ⟨w.heap.size + 1, 5, none⟩ = some (.slice a3 c.args.length b3) := by rw [cell_of HB2.out]; rfl
  go_wp2_with fail
  refine (show Calls Tryd.prog 105 #[.slice a1 c.args.length b1, .slice a3 c.args.length b3] wa _ from eqInts_same _ _ c.args wa G1.out G3.out hla).mono ?_
  rintro e w1 ⟨rfl, hF1⟩
  have G2' : Hd (IA w1 (.slice a2 c.rets.length b2) c.rets) := IA.stay G2.out hF1
  have G4' : Hd (IA w1 (.slice a4 c.rets.length b4) c.rets) := IA.stay G4.out hF1
  have p6 : w1.cell? ⟨w.heap.size, 6, none⟩ = some (.slice a2 c.rets.length b2) := by rw [hF1.cell (heap_lt HB1.out) (fun e => e), cell_of HB1.out]; rfl
  have r6 : w1.cell? ⟨w.heap.size + 1, 6, none⟩ = some (.slice a4 c.rets.length b4) := by rw [hF1.cell (heap_lt HB2.out) (fun e => e), cell_of HB2.out]; rfl
  have HF1 : Hd (Fr (fun _ => False) w w1) := HF.out.trans hF1
  clear hF1 c0 c1 c2 c3 c4 c5 d0 d1 d2 d3 d4 d5 HB1 HB2
  go_wp2_with fail
  refine (show Calls Tryd.prog 105 #[.slice a2 c.rets.length b2, .slice a4 c.rets.length b4] w1 _ from eqInts_same _ _ c.rets w1 G2'.out G4'.out hlr).mono ?_
  rintro e w2 ⟨rfl, hF2⟩
  have HF2 : Hd (Fr (fun _ => False) w w2) := HF1.out.trans hF2
  clear hF2
  go_wp2_with fail
  go_ret
  exact ⟨rfl, HF2.out⟩

set_option maxRecDepth 100000 in
set_option maxHeartbeats 2000000 in
theorem eqCode_same (v1 v2 : Value) (cs : List PI) (w : World) (h1 : CA w v1 cs) (h2 : CA w v2 cs) (hn : FineC cs) :
    Calls Tryd.prog 95 #[v1, v2] w fun e w' => e = .returned (.bool true) ∧ Fr (fun _ => False) w w' := by
  obtain ⟨a1, c1, rfl, hc1⟩ := h1
  obtain ⟨a2, c2, rfl, hc2⟩ := h2
  have H1 : Hd _ := hc1
  have H2 : Hd _ := hc2
  have HFI : Hd (FineC cs) := hn
  have hz := hn.1
  clear hc1 hc2 hn
  go_enter Tryd.func95, Tryd.ntmps95
  go_wp2_with fail
  go_loopw [5] (fun v wr => ∃ (k : Nat), v = .int .i64 k ∧ k ≤ cs.length ∧ Hd (Fr (fun _ => False) w wr)) (fun v _ => match v with | .int _ q => cs.length - q.toNat | _ => 0)
  case atStart => exact ⟨0, rfl, Nat.zero_le _, Fr.refl _ _⟩
  case round =>
    obtain ⟨k, rfl, hk, HF⟩ := hrel
    by_cases hlt : k < cs.length
    · have hne : cs ≠ [] := by intro e; simp [e] at hlt
      obtain ⟨k1, o1, rfl, hk1, g1⟩ := H1.out hne
      obtain ⟨k2, o2, rfl, hk2, g2⟩ := H2.out hne
      obtain ⟨x1, y1, p0, p1, p2, p3, p4, p5, p6, ix1, iy1⟩ := g1 k hlt
      obtain ⟨x2, y2, q0, q1, q2, q3, q4, q5, q6, ix2, iy2⟩ := g2 k hlt
      have m1 := fun o => HF.out.cell (o := o) hk1 (fun h => h)
      have m2 := fun o => HF.out.cell (o := o) hk2 (fun h => h)
      have p0 := (m1 _).trans p0
      have p1 := (m1 _).trans p1
      have p2 := (m1 _).trans p2
      have p3 := (m1 _).trans p3
      have p4 := (m1 _).trans p4
      have p5 := (m1 _).trans p5
      have p6 := (m1 _).trans p6
      have q0 := (m2 _).trans q0
      have q1 := (m2 _).trans q1
      have q2 := (m2 _).trans q2
      have q3 := (m2 _).trans q3
      have q4 := (m2 _).trans q4
      have q5 := (m2 _).trans q5
      have q6 := (m2 _).trans q6
      have X1 : Hd (IA wr x1 cs[k].args) := ix1.stay HF.out
      have Y1 : Hd (IA wr y1 cs[k].rets) := iy1.stay HF.out
      have X2 : Hd (IA wr x2 cs[k].args) := ix2.stay HF.out
      have Y2 : Hd (IA wr y2 cs[k].rets) := iy2.stay HF.out
      have HC : Hd (cs[k].args.length ≤ 17592186043904 ∧ cs[k].rets.length ≤ 17592186043904) := HFI.out.2 _ (List.getElem_mem hlt)
      generalize cs[k] = c at *
      obtain ⟨a, b, e1, -⟩ := ix1
      obtain ⟨a', b', e2, -⟩ := iy1
      obtain ⟨a'', b'', e3, -⟩ := ix2
      obtain ⟨a3, b3, e4, -⟩ := iy2
      subst e1; subst e2; subst e3; subst e4
      have hk0 : (0 : Int) ≤ k := by omega
      have hk3 : (k : Int) < cs.length := by omega
      clear g1 g2 m1 m2
      go_wp2_with fail
      refine wp_region_still_tail 8 mixed (by kernel_rfl) ?_
      simp only [List.take_succ_cons, List.take_zero, List.drop_succ_cons, List.drop_zero]
      repeat still_step
      refine wpStill_nil ?_
      go_wp2_with fail
      refine (show Calls Tryd.prog 102 #[.agg #[vI c.op, vI c.r, vI c.s, vI c.t, vI c.n, .slice a c.args.length b, .slice a' c.rets.length b'], .agg #[vI c.op, vI c.r, vI c.s, vI c.t, vI c.n, .slice a'' c.args.length b'', .slice a3 c.rets.length b3]] wr.drew _ from eqInstr_same c _ _ _ _ wr.drew X1.out Y1.out X2.out Y2.out (by have := HC.out; omega) (by have := HC.out; omega)).mono ?_
      rintro e w1 ⟨rfl, hF1⟩
      have HF1 : Hd (Fr (fun _ => False) w w1) := HF.out.drew.trans hF1
      clear hF1 p0 p1 p2 p3 p4 p5 p6 q0 q1 q2 q3 q4 q5 q6
      go_wp2_with fail
      exact ⟨⟨k + 1, by simp, by omega, HF1.out⟩, by simp; omega⟩
    · have hke : k = cs.length := by omega
      subst hke
      go_wp2_with fail
      go_ret
      exact ⟨rfl, HF.out⟩

set_option maxRecDepth 100000 in
set_option maxHeartbeats 2000000 in
theorem eqFunc_same (f : PF) (x1 x2 : Value) (w : World) (h1 : CA w x1 f.code) (h3 : CA w x2 f.code) (hn : FineC f.code) :
    Calls Tryd.prog 67 #[.agg #[vI f.P, vI f.R, vI f.V, x1], .agg #[vI f.P, vI f.R, vI f.V, x2]] w fun e w' => e = .returned (.bool true) ∧ Fr (fun _ => False) w w' := by
  obtain ⟨a1, b1, e1, -⟩ := id h1
  obtain ⟨a3, b3, e3, -⟩ := id h3
  have hF : Fr (fun _ => False) w ((w.alloc (.cells #[vI f.P, vI f.R, vI f.V, x1] 67)).alloc (.cells #[vI f.P, vI f.R, vI f.V, x2] 67)) := Fr.alloc (Fr.alloc (Fr.refl _ w) _) _
  have HB1 : Hd (((w.alloc (.cells #[vI f.P, vI f.R, vI f.V, x1] 67)).alloc (.cells #[vI f.P, vI f.R, vI f.V, x2] 67)).heap[w.heap.size]? = some (.cells #[vI f.P, vI f.R, vI f.V, x1] 67)) := by
    unfold Hd; rw [Go.RowKit.Below.heap_alloc _ _ _ (by simp)]; exact heap_new w _
  have HB2 : Hd (((w.alloc (.cells #[vI f.P, vI f.R, vI f.V, x1] 67)).alloc (.cells #[vI f.P, vI f.R, vI f.V, x2] 67)).heap[w.heap.size + 1]? = some (.cells #[vI f.P, vI f.R, vI f.V, x2] 67)) := by
    unfold Hd; rw [show w.heap.size + 1 = (w.alloc (.cells #[vI f.P, vI f.R, vI f.V, x1] 67)).heap.size by simp]; exact heap_new _ _
  have H1 := h1.stay hF
  have H3 := h3.stay hF
  have G1 : Hd _ := H1
  have G3 : Hd _ := H3
  have HF : Hd _ := hF
  clear h1 h3 H1 H3 hF
  subst e1; subst e3
  have q0 : (f.P == f.P) = true := by simp
  have q1 : (f.R == f.R) = true := by simp
  have q2 : (f.V == f.V) = true := by simp
  go_enter Tryd.func67, Tryd.ntmps67
  go_upto_region 1 with fail
  generalize (w.alloc (.cells #[vI f.P, vI f.R, vI f.V, .slice a1 f.code.length b1] 67)).alloc (.cells #[vI f.P, vI f.R, vI f.V, .slice a3 f.code.length b3] 67) = wa at *
  have c0 : wa.cell? ⟨w.heap.size, 0, none⟩ = some (vI f.P) := by rw [cell_of HB1.out]; rfl
  have c1 : wa.cell? ⟨w.heap.size, 1, none⟩ = some (vI f.R) := by rw [cell_of HB1.out]; rfl
  have c2 : wa.cell? ⟨w.heap.size, 2, none⟩ = some (vI f.V) := by rw [cell_of HB1.out]; rfl
  have c3 : wa.cell? ⟨w.heap.size, 3, none⟩ = some (.slice a1 f.code.length b1) := by rw [cell_of HB1.out]; rfl
  have d0 : wa.cell? ⟨w.heap.size + 1, 0, none⟩ = some (vI f.P) := by rw [cell_of HB2.out]; rfl
  have d1 : wa.cell? ⟨w.heap.size + 1, 1, none⟩ = some (vI f.R) := by rw [cell_of HB2.out]; rfl
  have d2 : wa.cell? ⟨w.heap.size + 1, 2, none⟩ = some (vI f.V) := by rw [cell_of HB2.out]; rfl
  have d3 : wa.cell? ⟨w.heap.size + 1, 3, none⟩ = some (.slice a3 f.code.length b3) := by rw [cell_of HB2.out]; rfl
  go_wp2_with fail
  refine (show Calls Tryd.prog 95 #[.slice a1 f.code.length b1, .slice a3 f.code.length b3] wa _ from eqCode_same _ _ f.code wa G1.out G3.out hn).mono ?_
  rintro e w1 ⟨rfl, hF1⟩
  have HF1 : Hd (Fr (fun _ => False) w w1) := HF.out.trans hF1
  clear hF1 c0 c1 c2 c3 d0 d1 d2 d3 HB1 HB2
  go_wp2_with fail
  go_ret
  exact ⟨rfl, HF1.out⟩

set_option maxRecDepth 100000 in
set_option maxHeartbeats 2000000 in
theorem eqFuncs_same (v1 v2 : Value) (fs : List PF) (w : World) (h1 : FA w v1 fs) (h2 : FA w v2 fs) (hn : FineP fs) :
    Calls Tryd.prog 40 #[v1, v2] w fun e w' => e = .returned (.bool true) ∧ Fr (fun _ => False) w w' := by
  obtain ⟨a1, c1, rfl, hc1⟩ := h1
  obtain ⟨a2, c2, rfl, hc2⟩ := h2
  have H1 : Hd _ := hc1
  have H2 : Hd _ := hc2
  have HFI : Hd (FineP fs) := hn
  have hz := hn.1
  clear hc1 hc2 hn
  go_enter Tryd.func40, Tryd.ntmps40
  go_wp2_with fail
  go_loopw [5] (fun v wr => ∃ (k : Nat), v = .int .i64 k ∧ k ≤ fs.length ∧ Hd (Fr (fun _ => False) w wr)) (fun v _ => match v with | .int _ q => fs.length - q.toNat | _ => 0)
  case atStart => exact ⟨0, rfl, Nat.zero_le _, Fr.refl _ _⟩
  case round =>
    obtain ⟨k, rfl, hk, HF⟩ := hrel
    by_cases hlt : k < fs.length
    · have hne : fs ≠ [] := by intro e; simp [e] at hlt
      obtain ⟨k1, o1, rfl, hk1, g1⟩ := H1.out hne
      obtain ⟨k2, o2, rfl, hk2, g2⟩ := H2.out hne
      obtain ⟨x1, p0, p1, p2, p3, ix1⟩ := g1 k hlt
      obtain ⟨x2, q0, q1, q2, q3, ix2⟩ := g2 k hlt
      have m1 := fun o => HF.out.cell (o := o) hk1 (fun h => h)
      have m2 := fun o => HF.out.cell (o := o) hk2 (fun h => h)
      have p0 := (m1 _).trans p0
      have p1 := (m1 _).trans p1
      have p2 := (m1 _).trans p2
      have p3 := (m1 _).trans p3
      have q0 := (m2 _).trans q0
      have q1 := (m2 _).trans q1
      have q2 := (m2 _).trans q2
      have q3 := (m2 _).trans q3
      have X1 : Hd (CA wr x1 fs[k].code) := ix1.stay HF.out
      have X2 : Hd (CA wr x2 fs[k].code) := ix2.stay HF.out
      have HC : Hd (FineC fs[k].code) := HFI.out.2 _ (List.getElem_mem hlt)
      generalize fs[k] = f at *
      obtain ⟨a, b, e1, -⟩ := ix1
      obtain ⟨a'', b'', e3, -⟩ := ix2
      subst e1; subst e3
      have hk0 : (0 : Int) ≤ k := by omega
      have hk3 : (k : Int) < fs.length := by omega
      clear g1 g2 m1 m2
      go_wp2_with fail
      refine wp_region_still_tail 8 mixed (by kernel_rfl) ?_
      simp only [List.take_succ_cons, List.take_zero, List.drop_succ_cons, List.drop_zero]
      repeat still_step
      refine wpStill_nil ?_
      go_wp2_with fail
      refine (show Calls Tryd.prog 67 #[.agg #[vI f.P, vI f.R, vI f.V, .slice a f.code.length b], .agg #[vI f.P, vI f.R, vI f.V, .slice a'' f.code.length b'']] wr.drew _ from eqFunc_same f _ _ wr.drew X1.out X2.out HC.out).mono ?_
      rintro e w1 ⟨rfl, hF1⟩
      have HF1 : Hd (Fr (fun _ => False) w w1) := HF.out.drew.trans hF1
      clear hF1 p0 p1 p2 p3 q0 q1 q2 q3
      go_wp2_with fail
      exact ⟨⟨k + 1, by simp, by omega, HF1.out⟩, by simp; omega⟩
    · have hke : k = fs.length := by omega
      subst hke
      go_wp2_with fail
      go_ret
      exact ⟨rfl, HF.out⟩

set_option maxRecDepth 100000 in
set_option maxHeartbeats 2000000 in
/-- EqProgram of two programs that are the same. -/
theorem eqProgram_same (G : Int) (fs : List PF) (x1 x2 : Value) (w : World) (h1 : FA w x1 fs) (h3 : FA w x2 fs) (hn : FineP fs) :
    Calls Tryd.prog 15 #[.agg #[vI G, x1], .agg #[vI G, x2]] w fun e w' => e = .returned (.bool true) ∧ Fr (fun _ => False) w w' := by
  obtain ⟨a1, b1, e1, -⟩ := id h1
  obtain ⟨a3, b3, e3, -⟩ := id h3
  have hF : Fr (fun _ => False) w ((w.alloc (.cells #[vI G, x1] 26)).alloc (.cells #[vI G, x2] 26)) := Fr.alloc (Fr.alloc (Fr.refl _ w) _) _
  have HB1 : Hd (((w.alloc (.cells #[vI G, x1] 26)).alloc (.cells #[vI G, x2] 26)).heap[w.heap.size]? = some (.cells #[vI G, x1] 26)) := by
    unfold Hd; rw [Go.RowKit.Below.heap_alloc _ _ _ (by simp)]; exact heap_new w _
  have HB2 : Hd (((w.alloc (.cells #[vI G, x1] 26)).alloc (.cells #[vI G, x2] 26)).heap[w.heap.size + 1]? = some (.cells #[vI G, x2] 26)) := by
    unfold Hd; rw [show w.heap.size + 1 = (w.alloc (.cells #[vI G, x1] 26)).heap.size by simp]; exact heap_new _ _
  have H1 := h1.stay hF
  have H3 := h3.stay hF
  have G1 : Hd _ := H1
  have G3 : Hd _ := H3
  have HF : Hd _ := hF
  clear h1 h3 H1 H3 hF
  subst e1; subst e3
  have q0 : (G == G) = true := by simp
  go_enter Tryd.func15, Tryd.ntmps15
  go_upto_region 1 with fail
  generalize (w.alloc (.cells #[vI G, .slice a1 fs.length b1] 26)).alloc (.cells #[vI G, .slice a3 fs.length b3] 26) = wa at *
  have c0 : wa.cell? ⟨w.heap.size, 0, none⟩ = some (vI G) := by rw [cell_of HB1.out]; rfl
  have c1 : wa.cell? ⟨w.heap.size, 1, none⟩ = some (.slice a1 fs.length b1) := by rw [cell_of HB1.out]; rfl
  have d0 : wa.cell? ⟨w.heap.size + 1, 0, none⟩ = some (vI G) := by rw [cell_of HB2.out]; rfl
  have d1 : wa.cell? ⟨w.heap.size + 1, 1, none⟩ = some (.slice a3 fs.length b3) := by rw [cell_of HB2.out]; rfl
  go_wp2_with fail
  refine (show Calls Tryd.prog 40 #[.slice a1 fs.length b1, .slice a3 fs.length b3] wa _ from eqFuncs_same _ _ fs wa G1.out G3.out hn).mono ?_
  rintro e w1 ⟨rfl, hF1⟩
  have HF1 : Hd (Fr (fun _ => False) w w1) := HF.out.trans hF1
  clear hF1 c0 c1 d0 d1 HB1 HB2
  go_wp2_with fail
  go_ret
  exact ⟨rfl, HF1.out⟩

end Go.Proofs.YtingenonbkencaaDoor
