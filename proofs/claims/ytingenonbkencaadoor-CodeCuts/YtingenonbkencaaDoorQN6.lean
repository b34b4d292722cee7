import Derived.Test.YtingenonbkencaaDoorQN4J
import Derived.Test.YtingenonbkencaaDoorQW4
import Derived.Test.YtingenonbkencaaDoorQE6J
set_option linter.unusedVariables false
set_option linter.unusedSimpArgs false
namespace Go.Proofs.YtingenonbkencaaDoor
open Go.RowKit (wrap32 wrap64)
set_option maxRecDepth 100000
set_option maxHeartbeats 4000000
theorem then_ok {α β : Type} {c : X α} {p : α → X β} {y : β} (h : thenX c p = .ok y) : ∃ x, c = .ok x ∧ p x = .ok y := by
  cases c with
  | ok x => exact ⟨x, rfl, h⟩
  | error z => cases h
theorem instrL_kept {b : Nat} {heads : List (Nat × Nat)} {fR i : Nat} {la lr : List Int} {s : WS} {y : WS × Unit} (h : instrL (b := b) heads fR i la lr s = .ok y) : Kept s y.1 := by
  have h0 : Kept s ({ s with at' := adv s.at' 1 } : WS) := ⟨rfl, rfl, rfl, rfl, rfl, rfl, rfl, rfl, rfl, rfl, rfl⟩
  by_cases h1 : 1 ≤ s.op ∧ s.op ≤ 17
  · by_cases h15 : s.op = 15
    · obtain ⟨x, e1, e2⟩ := then_ok ((instrL_15 heads fR i la lr s h15).symm.trans h)
      exact (h0.trans (frontOk_kept e1)).trans (listL_kept e2).1
    · by_cases h11 : s.op = 11
      · obtain ⟨x, e1, e2⟩ := then_ok ((instrL_11 heads fR i la lr s h11).symm.trans h)
        obtain ⟨x1, e3, e4⟩ := then_ok e1
        obtain ⟨x2, e5, e6⟩ := then_ok e2
        exact (((h0.trans (frontOk_kept e3)).trans (askX_kept (by simp) e4)).trans (listL_kept e5).1).trans (listL_kept e6).1
      · have e := (instrL_k heads fR i la lr s h1 h15 h11).symm.trans h
        have hk : KeepsX (M := leaving b) s (frontOk (leaving b) (s.op == 13) (s.op == 6) (nbK s.op.toNat s la.length lr.length) i s.at' ({ s with at' := adv s.at' 1 }, ())) := fun y hy => h0.trans (frontOk_kept hy)
        exact partsX_kept s.op.toNat hk y e
  · cases (instrL_no heads fR i la lr s h1).symm.trans h
def inFv (f : PF) (cv : Value) (s : WS) : WS := { s with fP := f.P, fR := f.R, fV := f.V, fC := cv, len := (f.code.length : Nat) }
def inIv (c : PI) (av rv : Value) (s : WS) : WS := { s with op := c.op, r := c.r, s := c.s, t := c.t, n := c.n, args := av, rets := rv }
theorem inIv_lies {w : World} {b : Nat} {s : WS} (c : PI) (av rv : Value) (h : Lies w b s) :
    Lies (((((((w.setCell ⟨b, 154, none⟩ (vI c.op)).setCell ⟨b, 155, none⟩ (vI c.r)).setCell ⟨b, 156, none⟩ (vI c.s)).setCell ⟨b, 157, none⟩ (vI c.t)).setCell ⟨b, 158, none⟩ (vI c.n)).setCell ⟨b, 159, none⟩ av).setCell ⟨b, 160, none⟩ rv) b (inIv c av rv s) := by
  have h1 := h.setCell (s' := { s with op := c.op }) 154 (vI c.op) (by kernel_rfl)
  have h2 := h1.setCell (s' := { s with op := c.op, r := c.r }) 155 (vI c.r) (by kernel_rfl)
  have h3 := h2.setCell (s' := { s with op := c.op, r := c.r, s := c.s }) 156 (vI c.s) (by kernel_rfl)
  have h4 := h3.setCell (s' := { s with op := c.op, r := c.r, s := c.s, t := c.t }) 157 (vI c.t) (by kernel_rfl)
  have h5 := h4.setCell (s' := { s with op := c.op, r := c.r, s := c.s, t := c.t, n := c.n }) 158 (vI c.n) (by kernel_rfl)
  have h6 := h5.setCell (s' := { s with op := c.op, r := c.r, s := c.s, t := c.t, n := c.n, args := av }) 159 av (by kernel_rfl)
  exact h6.setCell (s' := inIv c av rv s) 160 rv (by kernel_rfl)
theorem fr_L {b : Nat} {w w' : World} (h : Fr (leaving b).SB w w') : Fr (fun k => k = b) w w' := h.mono (fun _ _ hk => L_SB hk)
theorem over_any {b : Nat} (s : WS) (w : World) (h : On (leaving b) w (s, ())) (G : Int) (fsv : Value) (fs : List PF) (hL : FL b w fsv fs) :
    Calls Tryd.prog 36 #[.pointer (some ⟨b, 0, none⟩), .agg #[vI G, fsv]] w (OverEnds b (overP b G fs s) w) := by
  obtain ⟨c2, -, c146, c147, -, c149, c150, c151, c152, c153, -, -, -, -, -, -, -, c161⟩ := h.1.facts
  have hz := h.1.frozen
  have hb := h.1.lt
  obtain ⟨hlen, fa, fcap, rfl, hin⟩ := hL
  have HIN : Hd _ := hin
  have HL : Hd (FL b w (.slice fa fs.length fcap) fs) := ⟨hlen, fa, fcap, rfl, hin⟩
  clear hin
  obtain ⟨T, HT⟩ : ∃ T, Hd (T = overP b G fs s) := ⟨_, rfl⟩
  rw [← HT.out]
  go_enter Tryd.func36, Tryd.ntmps36
  go_wp2_with fail
  go_region
  have hl1 : Lies ((w.setCell ⟨b, 146, none⟩ (vI G)).setCell ⟨b, 161, none⟩ (vI fs.length)) b { s with globals := G, count := (fs.length : Nat) } :=
    (h.1.setCell 146 _ (cells_set s 146 G (by simp [places]))).setCell 161 _ (cells_set _ 161 _ (by simp [places]))
  have hf1 : Fr (fun k => k = b) w (((w.setCell ⟨b, 146, none⟩ (vI G)).setCell ⟨b, 161, none⟩ (vI fs.length)).alloc (.cells #[vI G, .slice fa fs.length fcap] 26)).drew :=
    (Fr.alloc (Fr.setCell (Fr.setCell (Fr.refl (fun k => k = b) w) _ _ (Or.inl rfl)) _ _ (Or.inl rfl)) _).drew
  have hpb : (((w.setCell ⟨b, 146, none⟩ (vI G)).setCell ⟨b, 161, none⟩ (vI fs.length)).alloc (.cells #[vI G, .slice fa fs.length fcap] 26)).drew.heap[w.heap.size]? = some (.cells #[vI G, .slice fa fs.length fcap] 26) := by
    have hsz : ((w.setCell ⟨b, 146, none⟩ (vI G)).setCell ⟨b, 161, none⟩ (vI fs.length)).heap.size = w.heap.size := by simp
    have := heap_alloc_last ((w.setCell ⟨b, 146, none⟩ (vI G)).setCell ⟨b, 161, none⟩ (vI fs.length)) (.cells #[vI G, .slice fa fs.length fcap] 26)
    rw [hsz] at this
    exact this
  have hon1 : On (leaving b) (((w.setCell ⟨b, 146, none⟩ (vI G)).setCell ⟨b, 161, none⟩ (vI fs.length)).alloc (.cells #[vI G, .slice fa fs.length fcap] 26)).drew ({ s with globals := G, count := (fs.length : Nat) }, ()) := h.fr hf1 (hl1.alloc _).drew rfl rfl
  generalize (((w.setCell ⟨b, 146, none⟩ (vI G)).setCell ⟨b, 161, none⟩ (vI fs.length)).alloc (.cells #[vI G, .slice fa fs.length fcap] 26)).drew = w1 at hf1 hon1 hpb ⊢
  clear hl1 c2 c146 c147 c149 c150 c151 c152 c153 c161 hz
  go_wp2_with fail
  refine (askGlobals_any (leaving b) (leaving_own b) _ w1 hon1).mono ?_
  rintro e w2 ⟨hf2, hres⟩
  have hfa : Fr (fun k => k = b) w w2 := hf1.trans (fr_L hf2)
  cases hx : askX (leaving b) 146 1 (fun s => decide (0 ≤ s.globals ∧ s.globals ≤ 16)) 18 ({ s with globals := G, count := (fs.length : Nat) }, ()) with
  | error z =>
    rw [hx] at hres
    have hres : e = .panicked (viol z.1 z.2) := hres
    subst hres
    have hTz : Hd (T = .error z) := by
      unfold Hd; rw [HT.out]; unfold overP
      rw [hx]; rfl
    clear hx
    go_wp2_with fail
    exact ⟨rfl, overEnds_err hTz.out hfa⟩
  | ok y1 =>
  rw [hx] at hres
  obtain ⟨rfl, hon2⟩ := hres
  have HT1 : Hd (T = thenX (askX (leaving b) 161 2 (fun s => decide (1 ≤ s.count ∧ s.count ≤ 65535)) 20 y1) fun y => thenX (headsP b fs y.1) fun y => funcsP b (headsOfP fs) fs y.1) := by
    unfold Hd; rw [HT.out]; unfold overP
    rw [hx]; rfl
  have hc1 : y1.1.count = (fs.length : Nat) := by
    rw [L_ask] at hx
    split at hx
    · cases hx; rfl
    · cases hx
  clear hx HT
  go_wp2_with fail
  refine (askFunctions_any (leaving b) (leaving_own b) y1 w2 hon2).mono ?_
  rintro e w3 ⟨hf3, hres⟩
  have hfb : Fr (fun k => k = b) w w3 := hfa.trans (fr_L hf3)
  cases hx : askX (leaving b) 161 2 (fun s => decide (1 ≤ s.count ∧ s.count ≤ 65535)) 20 y1 with
  | error z =>
    rw [hx] at hres
    have hres : e = .panicked (viol z.1 z.2) := hres
    subst hres
    have hTz : Hd (T = .error z) := by
      unfold Hd; rw [HT1.out, hx]; rfl
    clear hx
    go_wp2_with fail
    exact ⟨rfl, overEnds_err hTz.out hfb⟩
  | ok y2 =>
  rw [hx] at hres
  obtain ⟨rfl, hon3⟩ := hres
  have HT2 : Hd (SimX (thenX (headsP b (fs.drop 0) y2.1) fun y => funcsP b (headsOfP fs) fs y.1) T) := by
    unfold Hd; rw [HT1.out, hx]; exact SimX.refl _
  have hnf : 1 ≤ fs.length ∧ fs.length ≤ 65535 := by
    obtain ⟨s1, u1⟩ := y1
    have hc1 : s1.count = (fs.length : Nat) := hc1
    have hx := (L_ask (b := b) 161 2 (fun s => decide (1 ≤ s.count ∧ s.count ≤ 65535)) 20 s1 u1).symm.trans hx
    split at hx
    · rename_i hd
      have hd := of_decide_eq_true hd
      have hd : 1 ≤ s1.count ∧ s1.count ≤ 65535 := hd
      omega
    · cases hx
  clear hx HT1 hc1
  have hp3 : w3.cell? ⟨w.heap.size, 1, none⟩ = some (.slice fa fs.length fcap) := by
    have hpl := (Array.getElem?_eq_some_iff.1 hpb).1
    have e13 : Fr (fun k => k = b) w1 w3 := (fr_L hf2).trans (fr_L hf3)
    have : w3.heap[w.heap.size]? = some (.cells #[vI G, .slice fa fs.length fcap] 26) := by rw [e13.block _ hpl (by omega)]; exact hpb
    unfold World.cell?; simp [this]
  obtain ⟨fk, fo, rfl, hfk, hfkb, hfc⟩ := HIN.out (by intro e; simp [e] at hnf)
  have HFC : Hd _ := hfc
  have HFN : Hd (1 ≤ fs.length ∧ fs.length ≤ 65535) := hnf
  have hps : ¬ w.heap.size = b := by omega
  have hplt : w.heap.size < w3.heap.size := cell_lt hp3
  clear hf1 hf2 hf3 hfa hpb hon1 hon2 hfc HIN h hnf
  go_wp2_with fail
  go_loopw [28] (fun i wr => ∃ (k : Nat) (s1 : WS), k ≤ fs.length ∧ i = .int .i64 k ∧ On (leaving b) wr (s1, ()) ∧ Fr (fun j => j = b) w3 wr ∧ Hd (SimX (thenX (headsP b (fs.drop k) s1) fun y => funcsP b (headsOfP fs) fs y.1) T) ∧ Hd (∀ f ∈ fs.take k, FineF f)) (fun i _ => match i with | .int _ q => fs.length - q.toNat | _ => 0)
  case atStart => exact ⟨0, y2.1, Nat.zero_le _, rfl, hon3, Fr.refl _ _, HT2, by unfold Hd; simp⟩
  case round =>
    obtain ⟨k, s1, hk, rfl, hon, hfr, hvx, hfin⟩ := hrel
    have hfw : Fr (fun j => j = b) w wr := hfb.trans hfr
    have hpu : wr.cell? ⟨w.heap.size, 1, none⟩ = some (.slice (some ⟨fk, fo, none⟩) fs.length fcap) := (hfr.cell hplt hps).trans hp3
    by_cases hlt : k < fs.length
    · obtain ⟨cv, f0, f1, f2, f3, hcl⟩ := HFC.out k hlt
      have hcl : CL b wr cv fs[k].code := hcl.fr hfw (fun k h => h)
      have gg : ∀ o, wr.cell? ⟨fk, o, none⟩ = w.cell? ⟨fk, o, none⟩ := fun o => hfw.cell hfk hfkb
      rw [← gg] at f0 f1 f2 f3
      clear gg
      obtain ⟨hcl0, ca, ccap, rfl, -⟩ := hcl
      have hst := heads_step hlt (s2 := inFv fs[k] (.slice ca fs[k].code.length ccap) s1) hvx.out rfl
      have HST : Hd _ := hst
      clear hst
      obtain ⟨-, -, -, -, -, c149, c150, c151, c152, c153, -⟩ := hon.1.facts
      have hz := hon.1.frozen
      have hb' := hon.1.lt
      go_wp2_with fail
      go_region
      have hl1 := (func_lies fs[k].P fs[k].R fs[k].V fs[k].code.length (.slice ca fs[k].code.length ccap) hon.1)
      have hf1 : Fr (fun k => k = b) wr ((((((wr.setCell ⟨b, 149, none⟩ (vI fs[k].P)).setCell ⟨b, 150, none⟩ (vI fs[k].R)).setCell ⟨b, 151, none⟩ (vI fs[k].V)).setCell ⟨b, 152, none⟩ (.slice ca fs[k].code.length ccap)).setCell ⟨b, 153, none⟩ (vI fs[k].code.length)).alloc (.cells #[vI fs[k].P, vI fs[k].R, vI fs[k].V, .slice ca fs[k].code.length ccap] 67)).drew :=
        (Fr.alloc (Fr.setCell (Fr.setCell (Fr.setCell (Fr.setCell (Fr.setCell (Fr.refl (fun k => k = b) wr) _ _ (Or.inl rfl)) _ _ (Or.inl rfl)) _ _ (Or.inl rfl)) _ _ (Or.inl rfl)) _ _ (Or.inl rfl)) _).drew
      have hon1 : On (leaving b) ((((((wr.setCell ⟨b, 149, none⟩ (vI fs[k].P)).setCell ⟨b, 150, none⟩ (vI fs[k].R)).setCell ⟨b, 151, none⟩ (vI fs[k].V)).setCell ⟨b, 152, none⟩ (.slice ca fs[k].code.length ccap)).setCell ⟨b, 153, none⟩ (vI fs[k].code.length)).alloc (.cells #[vI fs[k].P, vI fs[k].R, vI fs[k].V, .slice ca fs[k].code.length ccap] 67)).drew (inFv fs[k] (.slice ca fs[k].code.length ccap) s1, ()) := hon.fr hf1 (hl1.alloc _).drew rfl rfl
      generalize ((((((wr.setCell ⟨b, 149, none⟩ (vI fs[k].P)).setCell ⟨b, 150, none⟩ (vI fs[k].R)).setCell ⟨b, 151, none⟩ (vI fs[k].V)).setCell ⟨b, 152, none⟩ (.slice ca fs[k].code.length ccap)).setCell ⟨b, 153, none⟩ (vI fs[k].code.length)).alloc (.cells #[vI fs[k].P, vI fs[k].R, vI fs[k].V, .slice ca fs[k].code.length ccap] 67)).drew = w4 at hf1 hon1 ⊢
      clear c149 c150 c151 c152 c153 hz f0 f1 f2 f3 hl1 hon hvx
      have HFI : Hd (∀ y, headX (leaving b) (inFv fs[k] (.slice ca fs[k].code.length ccap) s1, ()) = .ok y → FineF fs[k]) := fun y hy => head_fine rfl rfl rfl rfl hy
      go_wp2_with fail
      refine (askHead_any (leaving b) (leaving_own b) _ w4 hon1).mono ?_
      rintro e w5 ⟨hf5, hres⟩
      have hf45 : Fr (fun k => k = b) wr w5 := hf1.trans (fr_L hf5)
      cases hx : headX (leaving b) (inFv fs[k] (.slice ca fs[k].code.length ccap) s1, ()) with
      | error z =>
        rw [hx] at hres
        have hres : e = .panicked (viol z.1 z.2) := hres
        subst hres
        have hTz : Hd (T = .error z) := HST.out.1 z hx
        clear hx
        go_wp2_with fail
        exact ⟨rfl, overEnds_err hTz.out (hfw.trans hf45)⟩
      | ok y =>
        rw [hx] at hres
        obtain ⟨rfl, hon5⟩ := hres
        have hn : Hd (SimX (thenX (headsP b (fs.drop (k + 1)) y.1) fun y => funcsP b (headsOfP fs) fs y.1) T) := HST.out.2 y hx
        have hfin2 : Hd (∀ f ∈ fs.take (k + 1), FineF f) := by
          have hf0 := HFI.out y hx
          unfold Hd
          rw [List.take_succ_eq_append_getElem hlt]
          intro f hf
          rcases List.mem_append.1 hf with hf | hf
          · exact hfin.out f hf
          · rw [List.mem_singleton] at hf; rw [hf]; exact hf0
        clear hx HST HFI hfin hf1 hf5 hon1
        go_wp2_with fail
        exact ⟨⟨k + 1, y.1, by omega, by simp, hon5, hfr.trans hf45, hn, hfin2⟩, by simp; omega⟩
    · have hkl : k = fs.length := by omega
      have hvx2 : Hd (SimX (funcsP b (headsOfP fs) (fs.drop 0) s1) T) := heads_end hkl hvx.out
      have HFIN : Hd (∀ f ∈ fs, FineF f) := by
        have := hfin.out
        rw [hkl, List.take_length] at this
        exact this
      clear hvx hfin
      subst hkl
      have c147 := hon.1.facts.2.2.2.1
      have hz := hon.1.frozen
      have hb' := hon.1.lt
      go_wp2_with fail
      have hff : Fr (fun k => k = b) wr (wr.setCell ⟨b, 147, none⟩ (.slice (some ⟨fk, fo, none⟩) fs.length fcap)) := Fr.setCell (Fr.refl (fun k => k = b) wr) _ _ (Or.inl rfl)
      have honf : On (leaving b) (wr.setCell ⟨b, 147, none⟩ (.slice (some ⟨fk, fo, none⟩) fs.length fcap)) ({ s1 with funcs := .slice (some ⟨fk, fo, none⟩) fs.length fcap }, ()) := hon.fr hff (hon.1.setCell 147 _ (cells_funcs _ _)) rfl rfl
      have hfw2 : Fr (fun k => k = b) w (wr.setCell ⟨b, 147, none⟩ (.slice (some ⟨fk, fo, none⟩) fs.length fcap)) := hfw.trans hff
      have hvx3 : Hd (SimX (funcsP b (headsOfP fs) (fs.drop 0) { s1 with funcs := .slice (some ⟨fk, fo, none⟩) fs.length fcap }) T) := (sim_funcsP b (headsOfP fs) (fs.drop 0) { s1 with funcs := .slice (some ⟨fk, fo, none⟩) fs.length fcap } s1 rfl).trans hvx2.out
      generalize (wr.setCell ⟨b, 147, none⟩ (.slice (some ⟨fk, fo, none⟩) fs.length fcap)) = wf at hff honf hfw2 ⊢
      clear c147 hz hb' hpu hff hon hvx2 hfw hfr hp3 hfb hon3 HT2 hplt
      go_loopw [53] (fun i wr => ∃ (j : Nat) (s2 : WS), j ≤ fs.length ∧ i = .int .i64 j ∧ On (leaving b) wr (s2, ()) ∧ Fr (fun j => j = b) w wr ∧ Hd (s2.funcs = .slice (some ⟨fk, fo, none⟩) fs.length fcap) ∧ Hd (SimX (funcsP b (headsOfP fs) (fs.drop j) s2) T)) (fun i _ => match i with | .int _ q => fs.length - q.toNat | _ => 0)
      case atStart => exact ⟨0, _, Nat.zero_le _, rfl, honf, hfw2, rfl, hvx3⟩
      case round =>
        clear honf hfw2 hvx3
        obtain ⟨j, s2, hj, rfl, hon, hfr, hsf, hvx⟩ := hrel
        by_cases hlt : j < fs.length
        · obtain ⟨cv, f0, f1, f2, f3, hcl⟩ := HFC.out j hlt
          have HCL : Hd (CL b w cv fs[j].code) := hcl
          have gg : ∀ o, wr.cell? ⟨fk, o, none⟩ = w.cell? ⟨fk, o, none⟩ := fun o => hfr.cell hfk hfkb
          rw [← gg] at f0 f1 f2 f3
          clear gg
          obtain ⟨hcl0, ca, ccap, rfl, -⟩ := hcl
          have hst : Hd _ := funcs_begin hlt (s2 := inFv fs[j] (.slice ca fs[j].code.length ccap) s2) hvx.out rfl
          obtain ⟨-, -, -, -, -, c149, c150, c151, c152, c153, -⟩ := hon.1.facts
          have hz := hon.1.frozen
          have hb' := hon.1.lt
          go_wp2_with fail
          go_region
          have hl1 := (func_lies fs[j].P fs[j].R fs[j].V fs[j].code.length (.slice ca fs[j].code.length ccap) hon.1)
          have hf1 : Fr (fun k => k = b) wr ((((((wr.setCell ⟨b, 149, none⟩ (vI fs[j].P)).setCell ⟨b, 150, none⟩ (vI fs[j].R)).setCell ⟨b, 151, none⟩ (vI fs[j].V)).setCell ⟨b, 152, none⟩ (.slice ca fs[j].code.length ccap)).setCell ⟨b, 153, none⟩ (vI fs[j].code.length)).alloc (.cells #[vI fs[j].P, vI fs[j].R, vI fs[j].V, .slice ca fs[j].code.length ccap] 67)).drew :=
            (Fr.alloc (Fr.setCell (Fr.setCell (Fr.setCell (Fr.setCell (Fr.setCell (Fr.refl (fun k => k = b) wr) _ _ (Or.inl rfl)) _ _ (Or.inl rfl)) _ _ (Or.inl rfl)) _ _ (Or.inl rfl)) _ _ (Or.inl rfl)) _).drew
          have hon1 : On (leaving b) ((((((wr.setCell ⟨b, 149, none⟩ (vI fs[j].P)).setCell ⟨b, 150, none⟩ (vI fs[j].R)).setCell ⟨b, 151, none⟩ (vI fs[j].V)).setCell ⟨b, 152, none⟩ (.slice ca fs[j].code.length ccap)).setCell ⟨b, 153, none⟩ (vI fs[j].code.length)).alloc (.cells #[vI fs[j].P, vI fs[j].R, vI fs[j].V, .slice ca fs[j].code.length ccap] 67)).drew (inFv fs[j] (.slice ca fs[j].code.length ccap) s2, ()) := hon.fr hf1 (hl1.alloc _).drew rfl rfl
          have hcf : ((((((wr.setCell ⟨b, 149, none⟩ (vI fs[j].P)).setCell ⟨b, 150, none⟩ (vI fs[j].R)).setCell ⟨b, 151, none⟩ (vI fs[j].V)).setCell ⟨b, 152, none⟩ (.slice ca fs[j].code.length ccap)).setCell ⟨b, 153, none⟩ (vI fs[j].code.length)).alloc (.cells #[vI fs[j].P, vI fs[j].R, vI fs[j].V, .slice ca fs[j].code.length ccap] 67)).drew.cell? ⟨wr.heap.size, 3, none⟩ = some (.slice ca fs[j].code.length ccap) := by
            rw [World.cell?_drew, World.cell?_alloc_at _ _ _ _ (by simp)]; rfl
          generalize ((((((wr.setCell ⟨b, 149, none⟩ (vI fs[j].P)).setCell ⟨b, 150, none⟩ (vI fs[j].R)).setCell ⟨b, 151, none⟩ (vI fs[j].V)).setCell ⟨b, 152, none⟩ (.slice ca fs[j].code.length ccap)).setCell ⟨b, 153, none⟩ (vI fs[j].code.length)).alloc (.cells #[vI fs[j].P, vI fs[j].R, vI fs[j].V, .slice ca fs[j].code.length ccap] 67)).drew = w4 at hf1 hon1 hcf ⊢
          have hf4w : Fr (fun k => k = b) w w4 := hfr.trans hf1
          have hfu : Hd ((inFv fs[j] (.slice ca fs[j].code.length ccap) s2).funcs = .slice (some ⟨fk, fo, none⟩) fs.length fcap) := hsf.out
          have hK0 : Hd ((inFv fs[j] (.slice ca fs[j].code.length ccap) s2).fR = fs[j].R ∧ (inFv fs[j] (.slice ca fs[j].code.length ccap) s2).len = (fs[j].code.length : Nat)) := ⟨rfl, rfl⟩
          have HFJ : Hd (FineF fs[j]) := HFIN.out _ (List.getElem_mem hlt)
          generalize inFv fs[j] (.slice ca fs[j].code.length ccap) s2 = s3 at hst hon1 hfu hK0
          clear c149 c150 c151 c152 c153 hz f0 f1 f2 f3 hl1 hon hb' hf1 hfr hvx hsf
          go_wp2_with fail
          go_loopw [70] (fun i wr => ∃ (i' : Nat) (s4 : WS), i' ≤ fs[j].code.length ∧ i = .int .i64 i' ∧ On (leaving b) wr (s4, ()) ∧ Fr (fun j => j = b) w wr ∧ Hd (s4.funcs = .slice (some ⟨fk, fo, none⟩) fs.length fcap) ∧ Hd (s4.fR = fs[j].R ∧ s4.len = (fs[j].code.length : Nat)) ∧ Hd (SimX (thenX (codeP b (headsOfP fs) fs[j].R.toNat i' (fs[j].code.drop i') s4) fun y => funcsP b (headsOfP fs) (fs.drop (j + 1)) y.1) T)) (fun i _ => match i with | .int _ q => fs[j].code.length - q.toNat | _ => 0)
          case atStart => exact ⟨0, s3, Nat.zero_le _, rfl, hon1, hf4w, hfu, hK0, hst⟩
          case round =>
            clear hon1 hf4w hfu hK0 hst hcf
            obtain ⟨i, s4, hi, rfl, hon, hfr, hfu, hK, hvx⟩ := hrel
            by_cases hil : i < fs[j].code.length
            · obtain ⟨-, ca', ccap', eca, hcode⟩ := HCL.out
              cases eca
              obtain ⟨ck, co, rfl, hck, hckb, hcode⟩ := hcode (by intro e; simp [e] at hil)
              obtain ⟨av, rv, k0, k1, k2, k3, k4, k5, k6, ha, hr, hal, hrl⟩ := hcode i hil
              clear hcode
              have ha2 : IL b wr av fs[j].code[i].args := ha.fr hfr (fun k h => h)
              have hr2 : IL b wr rv fs[j].code[i].rets := hr.fr hfr (fun k h => h)
              clear ha hr
              have gg : ∀ o, wr.cell? ⟨ck, o, none⟩ = w.cell? ⟨ck, o, none⟩ := fun o => hfr.cell hck hckb
              rw [← gg] at k0 k1 k2 k3 k4 k5 k6
              clear gg
              have HA : Hd (IL b wr av fs[j].code[i].args) := ha2
              have HR : Hd (IL b wr rv fs[j].code[i].rets) := hr2
              obtain ⟨aa, ac, rfl, -⟩ := ha2
              obtain ⟨ra, rc, rfl, -⟩ := hr2
              have hst : Hd _ := code_step hil (s2 := inIv fs[j].code[i] (.slice aa fs[j].code[i].args.length ac) (.slice ra fs[j].code[i].rets.length rc) s4) hvx.out rfl
              obtain ⟨-, -, -, -, -, -, -, -, -, -, d0, d1, d2, d3, d4, d5, d6, -⟩ := hon.1.facts
              have hz := hon.1.frozen
              have hb' := hon.1.lt
              go_wp2_with fail
              have hil7 := inIv_lies fs[j].code[i] (.slice aa fs[j].code[i].args.length ac) (.slice ra fs[j].code[i].rets.length rc) hon.1
              have hf7 : Fr (fun k => k = b) wr ((((((((wr.setCell ⟨b, 154, none⟩ (vI fs[j].code[i].op)).setCell ⟨b, 155, none⟩ (vI fs[j].code[i].r)).setCell ⟨b, 156, none⟩ (vI fs[j].code[i].s)).setCell ⟨b, 157, none⟩ (vI fs[j].code[i].t)).setCell ⟨b, 158, none⟩ (vI fs[j].code[i].n)).setCell ⟨b, 159, none⟩ (.slice aa fs[j].code[i].args.length ac)).setCell ⟨b, 160, none⟩ (.slice ra fs[j].code[i].rets.length rc)).alloc (.cells #[vI fs[j].code[i].op, vI fs[j].code[i].r, vI fs[j].code[i].s, vI fs[j].code[i].t, vI fs[j].code[i].n, .slice aa fs[j].code[i].args.length ac, .slice ra fs[j].code[i].rets.length rc] 71)) :=
                Fr.alloc (Fr.setCell (Fr.setCell (Fr.setCell (Fr.setCell (Fr.setCell (Fr.setCell (Fr.setCell (Fr.refl (fun k => k = b) wr) _ _ (Or.inl rfl)) _ _ (Or.inl rfl)) _ _ (Or.inl rfl)) _ _ (Or.inl rfl)) _ _ (Or.inl rfl)) _ _ (Or.inl rfl)) _ _ (Or.inl rfl)) _
              have hong : On (leaving b) ((((((((wr.setCell ⟨b, 154, none⟩ (vI fs[j].code[i].op)).setCell ⟨b, 155, none⟩ (vI fs[j].code[i].r)).setCell ⟨b, 156, none⟩ (vI fs[j].code[i].s)).setCell ⟨b, 157, none⟩ (vI fs[j].code[i].t)).setCell ⟨b, 158, none⟩ (vI fs[j].code[i].n)).setCell ⟨b, 159, none⟩ (.slice aa fs[j].code[i].args.length ac)).setCell ⟨b, 160, none⟩ (.slice ra fs[j].code[i].rets.length rc)).alloc (.cells #[vI fs[j].code[i].op, vI fs[j].code[i].r, vI fs[j].code[i].s, vI fs[j].code[i].t, vI fs[j].code[i].n, .slice aa fs[j].code[i].args.length ac, .slice ra fs[j].code[i].rets.length rc] 71)) (inIv fs[j].code[i] (.slice aa fs[j].code[i].args.length ac) (.slice ra fs[j].code[i].rets.length rc) s4, ()) := hon.fr hf7 (hil7.alloc _) rfl rfl
              change Calls Tryd.prog 65 _ ((((((((wr.setCell ⟨b, 154, none⟩ (vI fs[j].code[i].op)).setCell ⟨b, 155, none⟩ (vI fs[j].code[i].r)).setCell ⟨b, 156, none⟩ (vI fs[j].code[i].s)).setCell ⟨b, 157, none⟩ (vI fs[j].code[i].t)).setCell ⟨b, 158, none⟩ (vI fs[j].code[i].n)).setCell ⟨b, 159, none⟩ (.slice aa fs[j].code[i].args.length ac)).setCell ⟨b, 160, none⟩ (.slice ra fs[j].code[i].rets.length rc)).alloc (.cells #[vI fs[j].code[i].op, vI fs[j].code[i].r, vI fs[j].code[i].s, vI fs[j].code[i].t, vI fs[j].code[i].n, .slice aa fs[j].code[i].args.length ac, .slice ra fs[j].code[i].rets.length rc] 71)) _
              generalize ((((((((wr.setCell ⟨b, 154, none⟩ (vI fs[j].code[i].op)).setCell ⟨b, 155, none⟩ (vI fs[j].code[i].r)).setCell ⟨b, 156, none⟩ (vI fs[j].code[i].s)).setCell ⟨b, 157, none⟩ (vI fs[j].code[i].t)).setCell ⟨b, 158, none⟩ (vI fs[j].code[i].n)).setCell ⟨b, 159, none⟩ (.slice aa fs[j].code[i].args.length ac)).setCell ⟨b, 160, none⟩ (.slice ra fs[j].code[i].rets.length rc)).alloc (.cells #[vI fs[j].code[i].op, vI fs[j].code[i].r, vI fs[j].code[i].s, vI fs[j].code[i].t, vI fs[j].code[i].n, .slice aa fs[j].code[i].args.length ac, .slice ra fs[j].code[i].rets.length rc] 71)) = w6 at hf7 hong ⊢
              have hf6w : Fr (fun k => k = b) w w6 := hfr.trans hf7
              have hHb : HeadsAt w6 fk fo (headsOfP fs) := (headsAt_P HFC.out HFIN.out).fr hf6w hfk hfkb
              have hlh : (headsOfP fs).length = fs.length := by simp [headsOfP]
              obtain ⟨hfV, hfP, hfR, hfl0, hfl1⟩ := HFJ.out
              clear d0 d1 d2 d3 d4 d5 d6 hz k0 k1 k2 k3 k4 k5 k6 hil7
              refine (instr_L (inIv fs[j].code[i] (.slice aa fs[j].code[i].args.length ac) (.slice ra fs[j].code[i].rets.length rc) s4) w6 hong i (by omega) (by show 0 ≤ s4.len; rw [hK.out.2]; omega) (by show s4.len ≤ 4096; rw [hK.out.2]; omega)
                fs[j].R.toNat (by show s4.fR = _; rw [hK.out.1, Int.toNat_of_nonneg hfR.1]) (by omega) fs[j].code[i].args fs[j].code[i].rets (IL.fr HA.out hf7 (fun k h => h)) (IL.fr HR.out hf7 (fun k h => h)) hal hrl
                (headsOfP fs) fk fo fcap (by rw [hlh]; exact hfu.out) hHb hfkb (Nat.lt_of_lt_of_le hfk hf6w.size) (by rw [hlh]; exact HFN.out.2)).mono ?_
              rintro e w7 ⟨hf77, hres⟩
              have hf67 : Fr (fun k => k = b) w w7 := hf6w.trans (fr_L hf77)
              cases hx : instrL (b := b) (headsOfP fs) fs[j].R.toNat i fs[j].code[i].args fs[j].code[i].rets (inIv fs[j].code[i] (.slice aa fs[j].code[i].args.length ac) (.slice ra fs[j].code[i].rets.length rc) s4) with
              | error z =>
                rw [hx] at hres
                have hres : e = .panicked (viol z.1 z.2) := hres
                subst hres
                have hTz : Hd (T = .error z) := hst.out.1 z hx
                clear hx
                go_wp2_with fail
                exact ⟨rfl, overEnds_err hTz.out hf67⟩
              | ok y =>
                rw [hx] at hres
                obtain ⟨rfl, hon7⟩ := hres
                have hkp := instrL_kept hx
                have hn := hst.out.2 y hx
                have HN : Hd _ := hn
                have hfu2 : Hd (y.1.funcs = .slice (some ⟨fk, fo, none⟩) fs.length fcap) := hkp.funcs.trans hfu.out
                have hK2 : Hd (y.1.fR = fs[j].R ∧ y.1.len = (fs[j].code.length : Nat)) := ⟨hkp.fR.trans hK.out.1, hkp.len.trans hK.out.2⟩
                clear hx hst hkp hn hf7 hf77 hong hHb hfV hfP hfR hfl0 hfl1 hvx hfu hK HA HR
                go_wp2_with fail
                exact ⟨⟨i + 1, y.1, by omega, by simp, hon7, hf67, hfu2, hK2, HN⟩, by simp; omega⟩
            · have hie : i = fs[j].code.length := by omega
              have hn : Hd _ := code_end hie hvx.out
              clear hvx
              subst hie
              go_wp2_with fail
              exact ⟨⟨j + 1, s4, by omega, by simp, hon, hfr, hfu, hn⟩, by simp; omega⟩
        · have hje : j = fs.length := by omega
          have hn : Hd _ := funcs_end hje hvx.out
          clear hvx
          subst hje
          go_wp2_with fail
          go_end0
          exact overEnds_ok hn.out hfr hon
end Go.Proofs.YtingenonbkencaaDoor
