import Derived.Test.YtlmlmhinbkcpoaaDoorQEjJ
import Derived.BigQuiet
import Derived.Test.YtlmlmhinbkcpoaaDoorQLhJ
import Derived.Test.YtlmlmhinbkcpoaaDoorQEo
namespace Go.Proofs.YtlmlmhinbkcpoaaDoor
open Go.RowKit Go.Shelf
set_option linter.unusedVariables false
set_option linter.unusedSimpArgs false

/-! ### what another function is makes no difference -/
def callsX (cs : List PI) (g : Int) : Bool := cs.any fun c => decide (c.op = 11) && decide (c.n = g)
theorem callsX_no {cs : List PI} {g : Int} (h : callsX cs g = false) : ∀ c ∈ cs, c.op = 11 → c.n ≠ g := fun c hc h1 h2 => by
  have := List.any_eq_false.1 h c hc
  simp [h1, h2] at this
/-- Alike, as far as a function of this code can see. -/
structure Alike (cs : List PI) (fs fs' : List PF) (ss ss' : List PS) : Prop where
  len : fs'.length = fs.length
  slen : ss'.length = ss.length
  head : ∀ c ∈ cs, c.op = 11 → 0 ≤ c.n → (fs'.getD c.n.toNat ⟨0, 0, 0, []⟩).P = (fs.getD c.n.toNat ⟨0, 0, 0, []⟩).P ∧ (fs'.getD c.n.toNat ⟨0, 0, 0, []⟩).R = (fs.getD c.n.toNat ⟨0, 0, 0, []⟩).R ∧ (fs'.getD c.n.toNat ⟨0, 0, 0, []⟩).V = (fs.getD c.n.toNat ⟨0, 0, 0, []⟩).V
  sum : ∀ c ∈ cs, c.op = 11 → 0 ≤ c.n → ss'.getD c.n.toNat ⟨[], []⟩ = ss.getD c.n.toNat ⟨[], []⟩
section
variable {fs fs' : List PF} {ss ss' : List PS} {f : PF}
theorem Alike.heads (h : Alike f.code fs fs' ss ss') : headsF fs' f.code = headsF fs f.code := by
  unfold headsF
  rw [h.len]
  apply List.map_congr_left
  intro c hc
  obtain ⟨h1, h2⟩ := List.mem_filter.1 hc
  unfold isH at h2
  obtain ⟨e1, e2, e3⟩ := h.head c h1 (of_decide_eq_true h2).1 (of_decide_eq_true h2).2.1
  unfold headF
  generalize fs'.getD c.n.toNat ⟨0, 0, 0, []⟩ = a at *
  generalize fs.getD c.n.toNat ⟨0, 0, 0, []⟩ = b at *
  cases a
  cases b
  simp only at e1 e2 e3
  subst e1 e2 e3
  rfl
theorem Alike.alone (h : Alike f.code fs fs' ss ss') : aloneP fs' f = aloneP fs f := by
  unfold aloneP
  rw [h.heads, h.len]
theorem Alike.told (h : Alike f.code fs fs' ss ss') (hn : ∀ c ∈ f.code, c.op = 11 → 0 ≤ c.n) : toldX fs' ss' f.code = toldX fs ss f.code := by
  unfold toldX
  have key : ∀ c ∈ f.code, fitI fs' ss' c = fitI fs ss c := fun c hc => by
    unfold fitI
    by_cases e : c.op = 11
    · rw [if_pos e, if_pos e]
      obtain ⟨e1, e2, -⟩ := h.head c hc e (hn c hc e)
      rw [h.sum c hc e (hn c hc e), e1, e2]
    · rw [if_neg e, if_neg e]
  generalize f.code = cs at key
  clear hn h
  induction cs with
  | nil => rfl
  | cons c r ih => rw [List.all_cons, List.all_cons, key c List.mem_cons_self, ih (fun d hd => key d (List.mem_cons_of_mem _ hd))]
theorem Alike.edg (h : Alike f.code fs fs' ss ss') (hn : ∀ c ∈ f.code, c.op = 11 → 0 ≤ c.n) : edgX ss' f = edgX ss f := by
  unfold edgX
  have key : ∀ j, j < f.code.length → ∀ cell, edgI ss' f.R f.V cell (f.code.getD j dPI) = edgI ss f.R f.V cell (f.code.getD j dPI) := fun j hj cell => by
    have e : f.code.getD j dPI = f.code[j] := by simp [hj]
    rw [e]
    unfold edgI
    split
    · rfl
    · split
      · rename_i h11
        have e2 : ss'.getD f.code[j].n.toNat dPS = ss.getD f.code[j].n.toNat dPS := h.sum _ (List.getElem_mem hj) h11 (hn _ (List.getElem_mem hj) h11)
        rw [e2]
      · rfl
  have : ∀ m, m ≤ f.code.length → (List.range m).flatMap (fun j => edgI ss' f.R f.V (clX f.R f.V f.code j) (f.code.getD j dPI)) = (List.range m).flatMap (fun j => edgI ss f.R f.V (clX f.R f.V f.code j) (f.code.getD j dPI)) := by
    intro m
    induction m with
    | zero => intro _; rfl
    | succ m ih => intro hm; rw [flat_succ, flat_succ, ih (by omega), key m (by omega)]
  exact this _ (Nat.le_refl _)
/-- Whether there are edges, and which. -/
theorem Alike.ok {G : Int} {i : Nat} (hi : i < fs.length) (hi' : i < fs'.length) (he : fs'[i] = fs[i]) (h : Alike fs[i].code fs fs' ss ss') : EdgOk G fs' i ss' ↔ EdgOk G fs i ss := by
  have key : checkP G (aloneP fs fs[i]) = 0 → toldX fs' ss' fs[i].code = toldX fs ss fs[i].code := fun hc => h.told (fun c hcc e => by
    obtain ⟨q, hq, -⟩ := (right_ok hc).call c hcc e
    omega)
  constructor
  · rintro ⟨j, hj, hjl, h1, h2, h3⟩
    obtain rfl : i = j := by omega
    rw [he, h.alone] at h2
    rw [he, key h2] at h3
    exact ⟨i, rfl, hi, by rw [← h.slen, h1, h.len], h2, h3⟩
  · rintro ⟨j, hj, hjl, h1, h2, h3⟩
    obtain rfl : i = j := by omega
    rw [← key h2] at h3
    exact ⟨i, rfl, hi', by rw [h.slen, h1, h.len], by rw [he, h.alone]; exact h2, by rw [he]; exact h3⟩
/-- Another code for a function. -/
theorem alike_code (cs : List PI) {g : Nat} (hg : g < fs.length) (c' : List PI) : Alike cs fs (fs.set g { fs[g] with code := c' }) ss ss := by
  refine ⟨by simp, rfl, fun c _ _ _ => ?_, fun _ _ _ _ => rfl⟩
  rw [List.getD_eq_getElem?_getD, List.getD_eq_getElem?_getD, List.getElem?_set]
  by_cases e : g = c.n.toNat
  · rw [if_pos e, if_pos hg]
    subst e
    simp [hg]
  · rw [if_neg e]
    exact ⟨rfl, rfl, rfl⟩
/-- Another function, and another summary, in the place of one that is not called. -/
theorem alike_other (cs : List PI) {g : Nat} (hno : callsX cs g = false) (h : PF) (s : PS) : Alike cs fs (fs.set g h) ss (ss.set g s) := by
  have key : ∀ c ∈ cs, c.op = 11 → 0 ≤ c.n → g ≠ c.n.toNat := fun c hc e h0 e2 => callsX_no hno c hc e (by omega)
  refine ⟨by simp, by simp, fun c hc e h0 => ?_, fun c hc e h0 => ?_⟩
  · rw [List.getD_eq_getElem?_getD, List.getD_eq_getElem?_getD, List.getElem?_set, if_neg (key c hc e h0)]
    exact ⟨rfl, rfl, rfl⟩
  · rw [List.getD_eq_getElem?_getD, List.getD_eq_getElem?_getD, List.getElem?_set, if_neg (key c hc e h0)]
end
end Go.Proofs.YtlmlmhinbkcpoaaDoor

namespace Go.Proofs.YtlmlmhinbkcpoaaDoor
open Go.RowKit (wrap32 wrap64)
set_option linter.unusedVariables false
set_option linter.unusedSimpArgs false

set_option maxRecDepth 100000 in
set_option maxHeartbeats 2000000 in
theorem calls_any (f : PF) (cv : Value) (g : Int) (w : World) (h : CA w cv f.code) (hn : f.code.length ≤ 1599289640354) :
    Calls Tryd.prog 12 #[.agg #[vI f.P, vI f.R, vI f.V, cv], vI g] w fun e w' => e = .returned (.bool (callsX f.code g)) ∧ Fr (fun _ => False) w w' := by
  obtain ⟨W, hW⟩ : ∃ W, W = w.alloc (.cells #[vI f.P, vI f.R, vI f.V, cv] 30) := ⟨_, rfl⟩
  have HW : Hd (W = w.alloc (.cells #[vI f.P, vI f.R, vI f.V, cv] 30)) := hW
  have hF : Fr (fun _ => False) w W := by rw [hW]; exact Fr.alloc (Fr.refl _ w) _
  have k1 : W.heap[w.heap.size]? = some (.cells #[vI f.P, vI f.R, vI f.V, cv] 30) := by rw [hW]; exact heap_new w _
  obtain ⟨X, hX⟩ : ∃ X, X = w.heap.size := ⟨_, rfl⟩
  have HX : Hd (X = w.heap.size) := hX
  rw [← hX] at k1
  have HCV : Hd (CA W cv f.code) := h.stay hF
  have HF : Hd (Fr (fun _ => False) w W) := hF
  obtain ⟨ca, cc, ecv, -⟩ := h
  subst ecv
  have o3 : W.cell? ⟨X, 3, none⟩ = some (.slice ca f.code.length cc) := by rw [cell_of k1]; rfl
  clear hW hF k1 hX
  generalize f.code = cs at *
  go_enter Tryd.func12, Tryd.ntmps12
  go_upto_region 1 with fail
  rw [← HW.out, ← HX.out]
  clear HW HX
  go_wp2_with fail
  go_loopw [5] (fun v wr => ∃ (k : Nat), v = .int .i64 k ∧ k ≤ cs.length ∧ wr = W ∧ Hd (callsX (cs.take k) g = false)) (fun v _ => match v with | .int _ q => cs.length - q.toNat | _ => 0)
  case atStart => exact ⟨0, rfl, by omega, rfl, rfl⟩
  case round =>
    obtain ⟨k, rfl, hk, rfl, HA⟩ := hrel
    by_cases hlt : k < cs.length
    · obtain ⟨a', c', e', hcs⟩ := HCV.out
      cases e'
      obtain ⟨gb, o, rfl, hg, hcs⟩ := hcs (by intro e; rw [e] at hlt; simp at hlt)
      obtain ⟨av, rv, c0, -, -, -, c4, -⟩ := hcs k hlt
      have HN1 : Hd (callsX (cs.take (k + 1)) g = (callsX (cs.take k) g || (decide (cs[k].op = 11) && decide (cs[k].n = g)))) := by
        unfold Hd callsX
        rw [List.take_succ_eq_append_getElem hlt, List.any_append]
        simp
      have HN2 : Hd ((decide (cs[k].op = 11) && decide (cs[k].n = g)) = true → callsX cs g = true) := fun e => List.any_eq_true.2 ⟨cs[k], List.getElem_mem hlt, e⟩
      have hk0 : (0 : Int) ≤ k := by omega
      have hk1 : (k : Int) < cs.length := by omega
      clear hcs
      generalize cs[k].op = op at *
      generalize cs[k].n = nn at *
      by_cases h11 : op = 11
      · have e1 : (op == 11) = true := by simp [h11]
        by_cases hng : nn = g
        · have e2 : (nn == g) = true := by simp [hng]
          have HR : Hd (callsX cs g = true) := HN2.out (by simp [h11, hng])
          clear HN1 HN2
          go_wp2_with fail
          go_ret
          exact ⟨by rw [HR.out]; rfl, HF.out⟩
        · have e2 : (nn == g) = false := by simp [hng]
          have HR : Hd (callsX (cs.take (k + 1)) g = false) := by unfold Hd; rw [HN1.out, HA.out]; simp [hng]
          clear HN1 HN2
          go_wp2_with fail
          exact ⟨⟨k + 1, by simp, by omega, by trivial, HR⟩, by simp; omega⟩
      · have e1 : (op == 11) = false := by simp [h11]
        have HR : Hd (callsX (cs.take (k + 1)) g = false) := by unfold Hd; rw [HN1.out, HA.out]; simp [h11]
        clear HN1 HN2
        go_wp2_with fail
        exact ⟨⟨k + 1, by simp, by omega, by trivial, HR⟩, by simp; omega⟩
    · have hdk : decide ((k : Int) < cs.length) = false := by simp; omega
      have HR : Hd (callsX cs g = false) := by have := HA.out; rw [List.take_of_length_le (by omega)] at this; exact this
      go_wp2_with fail
      go_ret
      exact ⟨by rw [HR.out]; rfl, HF.out⟩

set_option maxRecDepth 100000 in
set_option maxHeartbeats 2000000 in
theorem eqEdges_same (v1 v2 : Value) (E : List Ed) (w : World) (h1 : w.ownsRow 0 47 3 v1 E.length (E.flatMap edC)) (h2 : w.ownsRow 0 47 3 v2 E.length (E.flatMap edC)) (hn : E.length ≤ 1000000) :
    Calls Tryd.prog 13 #[v1, v2] w fun e w' => e = .returned (.bool true) ∧ Fr (fun _ => False) w w' := by
  have H1 : Hd _ := h1
  have H2 : Hd _ := h2
  obtain ⟨a1, c1, e1⟩ := own_slice h1
  obtain ⟨a2, c2, e2⟩ := own_slice h2
  subst e1 e2
  clear h1 h2
  go_enter Tryd.func13, Tryd.ntmps13
  go_wp2_with fail
  go_loopw [5] (fun v wr => ∃ (k : Nat), v = .int .i64 k ∧ k ≤ E.length ∧ Hd (Fr (fun _ => False) w wr)) (fun v _ => match v with | .int _ q => E.length - q.toNat | _ => 0)
  case atStart => exact ⟨0, rfl, by omega, Fr.refl _ _⟩
  case round =>
    obtain ⟨k, rfl, hk, HF⟩ := hrel
    by_cases hlt : k < E.length
    · have pc : ∀ {v : Value} (hv : w.ownsRow 0 47 3 v E.length (E.flatMap edC)) o u, o < 3 → (edC E[k])[o]? = some u → ∃ g cap, v = .slice (some ⟨g, 0, none⟩) E.length cap ∧ wr.cell? ⟨g, k * 3 + o, none⟩ = some u := fun hv o u ho hu => by
        obtain ⟨g, cap, e, -, hc⟩ := own_cell (ownsRow_frL hv HF.out (fun _ _ e => e)) (j := k * 3 + o) (u := u) (by rw [flat_get edC 3 (fun _ => rfl) E k o hlt ho]; exact hu)
        exact ⟨g, cap, e, hc⟩
      obtain ⟨g, cap, eg, x0⟩ := pc H1.out 0 _ (by omega) rfl
      obtain ⟨g1, cap1, eg1, x1⟩ := pc H1.out 1 _ (by omega) rfl
      obtain ⟨g2, cap2, eg2, x2⟩ := pc H1.out 2 _ (by omega) rfl
      cases eg
      cases eg1
      cases eg2
      obtain ⟨l, lap, el, y0⟩ := pc H2.out 0 _ (by omega) rfl
      obtain ⟨l1, lap1, el1, y1⟩ := pc H2.out 1 _ (by omega) rfl
      obtain ⟨l2, lap2, el2, y2⟩ := pc H2.out 2 _ (by omega) rfl
      cases el
      cases el1
      cases el2
      rw [Nat.add_zero] at x0 y0
      have hk0 : (0 : Int) ≤ k := by omega
      have hk1 : (k : Int) < E.length := by omega
      clear pc
      generalize E[k].1 = d at *
      generalize E[k].2.1 = s at *
      generalize E[k].2.2 = q at *
      go_wp2_with fail
      go_quiet (fail)
      go_wp2_with fail
      exact ⟨⟨k + 1, by simp, by omega, ⟨HF.out.os, HF.out.tape, HF.out.output, HF.out.size, HF.out.block⟩⟩, by simp; omega⟩
    · have hdk : decide ((k : Int) < E.length) = false := by simp; omega
      go_wp2_with fail
      go_ret
      exact ⟨rfl, HF.out⟩
end Go.Proofs.YtlmlmhinbkcpoaaDoor

namespace Go.Proofs.YtlmlmhinbkcpoaaDoor
open Go.RowKit (wrap32 wrap64)
set_option linter.unusedVariables false
set_option linter.unusedSimpArgs false

set_option maxRecDepth 100000 in
set_option maxHeartbeats 2000000 in
/-- CopyProgram: what it makes is its own. -/
theorem copyProgramO_any (G : Int) (v : Value) (fs : List PF) (w : World) (hl : FA w v fs) (hn : FineP fs) :
    Calls Tryd.prog 10 #[.agg #[vI G, v]] w fun e w' => ∃ v' L, e = .returned (.agg #[vI G, v']) ∧ FO w' (w.heap.size + 2) v' L ∧ L.map (·.1) = fs ∧ Fr (fun _ => False) w w' := by
  obtain ⟨a1, b1, e1, -⟩ := id hl
  obtain ⟨wa, hwa⟩ : ∃ wa, wa = (w.alloc (.cells #[vI G, v] 24)).alloc (.cells #[vI 0, .slice none 0 0] 24) := ⟨_, rfl⟩
  have hF : Fr (fun _ => False) w wa := by rw [hwa]; exact Fr.alloc (Fr.alloc (Fr.refl _ w) _) _
  have hsz : wa.heap.size = w.heap.size + 2 := by rw [hwa]; simp
  have b1' : wa.heap[w.heap.size]? = some (.cells #[vI G, v] 24) := by
    rw [hwa, Go.RowKit.Below.heap_alloc _ _ _ (by simp)]; exact heap_new w _
  have b2' : wa.heap[w.heap.size + 1]? = some (.cells #[vI 0, .slice none 0 0] 24) := by
    rw [hwa, show w.heap.size + 1 = (w.alloc (.cells #[vI G, v] 24)).heap.size by simp]; exact heap_new _ _
  have HWA : Hd (wa = (w.alloc (.cells #[vI G, v] 24)).alloc (.cells #[vI 0, .slice none 0 0] 24)) := hwa
  have G1 : Hd (FA wa v fs) := hl.stay hF
  have HF : Hd (Fr (fun _ => False) w wa) := hF
  obtain ⟨H, hH⟩ : ∃ H, H = w.heap.size := ⟨_, rfl⟩
  have HH : Hd (H = w.heap.size) := hH
  have HSZ : Hd (wa.heap.size = H + 2) := by rw [hH]; exact hsz
  rw [← hH] at b1' b2'
  have B1 : Hd _ := b1'
  have B2 : Hd _ := b2'
  have p0 : wa.cell? ⟨H, 0, none⟩ = some (vI G) := by rw [cell_of b1']; rfl
  have p1 : wa.cell? ⟨H, 1, none⟩ = some v := by rw [cell_of b1']; rfl
  subst e1
  clear hl hF hsz hwa hH b1' b2'
  go_enter Tryd.func10, Tryd.ntmps10
  go_upto_region 1 with fail
  rw [← HWA.out, ← HH.out]
  clear HWA
  go_region_held3 (fun w' => w'.cell? ⟨H, 0, none⟩ = some (vI G) ∧ w'.cell? ⟨H, 1, none⟩ = some (.slice a1 fs.length b1)) (go_keep) ((
    go_at_call 31
    refine (show Calls Tryd.prog 31 #[.slice a1 fs.length b1] wa.drew _ from copyFuncs_any _ fs wa.drew G1.out hn).mono ?_
    rintro e w2 ⟨x', L, rfl, hx', hL, hF2⟩
    have hG2 : Fr (fun _ => False) wa w2 := (Fr.refl _ wa).drew.trans hF2
    have B1' : w2.heap[H]? = some (.cells #[vI G, .slice a1 fs.length b1] 24) := (hG2.block H (heap_lt B1.out) (fun e => e)).trans B1.out
    have B2' : w2.heap[H + 1]? = some (.cells #[vI 0, .slice none 0 0] 24) := (hG2.block (H + 1) (heap_lt B2.out) (fun e => e)).trans B2.out
    have s0 : w2.cell? ⟨H, 0, none⟩ = some (vI G) := by rw [cell_of B1']; rfl
    have s1 : w2.cell? ⟨H, 1, none⟩ = some (.slice a1 fs.length b1) := by rw [cell_of B1']; rfl
    have d0 : w2.cell? ⟨H + 1, 0, none⟩ = some (vI 0) := by rw [cell_of B2']; rfl
    have d1 : w2.cell? ⟨H + 1, 1, none⟩ = some (.slice none 0 0) := by rw [cell_of B2']; rfl
    have y0 := frozen_of B2' 0
    have y1 := frozen_of B2' 1
    have HX : Hd (FO w2 (H + 2) x' L) := hx'.mono (by have := HSZ.out; show H + 2 ≤ wa.heap.size; omega)
    have HLL : Hd (L.map (·.1) = fs) := hL
    have HF2 : Hd (Fr (fun _ => False) w w2) := HF.out.trans hG2
    have HB2 : Hd (w2.heap[H + 1]? = some (.cells #[vI 0, .slice none 0 0] 24)) := B2'
    obtain ⟨xa, xc, rfl⟩ := hx'.shape
    clear hx' hL hF2 hG2 B1' B2'))
  all_goals
    have HZ : Hd (((w2.setCell ⟨H + 1, 0, none⟩ (vI G)).setCell ⟨H + 1, 1, none⟩ (.slice xa L.length xc)).heap[H + 1]? = some (.cells #[vI G, .slice xa L.length xc] 24)) := set_of (set_of HB2.out 0 _) 1 _
    have fs6 : Fr (fun j => j = H + 1) w2 ((w2.setCell ⟨H + 1, 0, none⟩ (vI G)).setCell ⟨H + 1, 1, none⟩ (.slice xa L.length xc)) := Fr.setCell (S := fun j => j = H + 1) (Fr.setCell (S := fun j => j = H + 1) (Fr.refl _ w2) _ _ (Or.inl rfl)) _ _ (Or.inl rfl)
    have KX : Hd (FO ((w2.setCell ⟨H + 1, 0, none⟩ (vI G)).setCell ⟨H + 1, 1, none⟩ (.slice xa L.length xc)) (w.heap.size + 2) (.slice xa L.length xc) L) := by
      have := HX.out.far fs6 (fun k e => by omega)
      exact this.mono (by have := HH.out; omega)
    have KF : Hd (Fr (fun _ => False) w ((w2.setCell ⟨H + 1, 0, none⟩ (vI G)).setCell ⟨H + 1, 1, none⟩ (.slice xa L.length xc))) := Fr.then HF2.out fs6 (fun j hj e => by have := HH.out; omega)
    clear fs6
    go_wp2_with fail
    generalize (w2.setCell ⟨H + 1, 0, none⟩ (vI G)).setCell ⟨H + 1, 1, none⟩ (.slice xa L.length xc) = wz at *
    have e0 : wz.cell? ⟨H + 1, 0, none⟩ = some (vI G) := by rw [cell_of HZ.out]; rfl
    have e1 : wz.cell? ⟨H + 1, 1, none⟩ = some (.slice xa L.length xc) := by rw [cell_of HZ.out]; rfl
    refine bodyPost_ret (v := .agg #[vI G, .slice xa L.length xc]) ?_ rfl ⟨_, L, rfl, KX.out, HLL.out, KF.out⟩
    rw [results_cell (p := 2) (ty := 24) Tryd.results10]
    simp [go_sem, e0, e1]

end Go.Proofs.YtlmlmhinbkcpoaaDoor

namespace Go.Proofs.YtlmlmhinbkcpoaaDoor
open Go.RowKit (wrap32 wrap64)
set_option linter.unusedVariables false
set_option linter.unusedSimpArgs false

/-- Functions in a row of one's own, with the values of their codes. -/
def rowN (L : List FI) : List (PF × Value) := L.map fun x => (x.1, x.2.1)
theorem rowN_flat : ∀ L : List FI, (rowN L).flatMap rowP = L.flatMap rowF
  | [] => rfl
  | x :: L => by
    show rowP (x.1, x.2.1) ++ (rowN L).flatMap rowP = rowF x ++ L.flatMap rowF
    rw [rowN_flat L]
/-- A row of functions: some cells of one of them are written over. -/
theorem fn_set {w w' : World} {B g cap i : Nat} {N : List (PF × Value)} {x : PF × Value} (h : w.ownsRow B 30 4 (.slice (some ⟨g, 0, none⟩) N.length cap) N.length (N.flatMap rowP)) (hi : i < N.length) (hw : w'.ownsRow B 30 4 (.slice (some ⟨g, 0, none⟩) N.length cap) N.length ((N.set i x).flatMap rowP)) (hc : ∀ j (hj : j < N.length), j ≠ i → CA w' N[j].2 N[j].1.code) (hx : CA w' x.2 x.1.code) : FA w' (.slice (some ⟨g, 0, none⟩) N.length cap) ((N.set i x).map (·.1)) := by
  refine fa_of_row (B := B) (N := N.set i x) (by rw [List.length_set]; exact hw) (fun y hy => ?_)
  obtain ⟨j, hj, rfl⟩ := List.mem_iff_getElem.1 hy
  rw [List.getElem_set]
  split
  · exact hx
  · rename_i hne
    exact hc j (by simpa using hj) (fun e => hne e.symm)
/-- The code of a function is written over. -/
theorem fo_code {w : World} {B i g cap : Nat} {L : List FI} {w0 : World} {cv : Value} {c' : List PI} (h : FO w B (.slice (some ⟨g, 0, none⟩) L.length cap) L) (hi : i < L.length) (hB : w0.heap.size ≤ B) (f : Fr (fun _ => False) w0 w) (hcv : CA w0 cv c') :
    FA (w.setCell ⟨g, i * 4 + 3, none⟩ cv) (.slice (some ⟨g, 0, none⟩) L.length cap) ((L.map (·.1)).set i { L[i].1 with code := c' }) := by
  have hN : (rowN L).length = L.length := by unfold rowN; simp
  have hrow := h.row
  rw [← rowN_flat, ← hN] at hrow
  have hge := (World.ownsRow.lt hrow g rfl).1
  have fs := setCell_fr w g (i * 4 + 3) cv
  have hset := (row_set (j := i * 4 + 3) hrow cv).1
  have hgi : (rowN L)[i]'(by omega) = (L[i].1, L[i].2.1) := by simp only [rowN, List.getElem_map]
  rw [← flat_set rowP 4 (fun _ => rfl) 3 (by omega) cv (rowN L) i (by omega) ({ L[i].1 with code := c' }, cv) (by rw [hgi]; rfl)] at hset
  have hfa := fn_set hrow (by omega) hset (fun j hj hne => ?_) ?_
  · rw [hN] at hfa
    have e : ((rowN L).set i ({ L[i].1 with code := c' }, cv)).map (·.1) = (L.map (·.1)).set i { L[i].1 with code := c' } := by
      rw [List.map_set]
      unfold rowN
      rw [List.map_map]
      rfl
    rw [e] at hfa
    exact hfa
  · have hj' : j < L.length := by omega
    have e : (rowN L)[j] = (L[j].1, L[j].2.1) := by simp only [rowN, List.getElem_map]
    rw [e]
    obtain ⟨k1, k2⟩ := h.code L[j] (List.getElem_mem hj')
    have := (k1.fr fs (fun k e1 e2 => own_apart h.row k1.row (by decide) k e1 (by rw [e2]; rfl)) (fun y hy k e1 e2 => by
      rcases e1 with e1 | e1
      · exact own_apart h.row (k1.ints y hy).1 (by decide) k e1 (by rw [e2]; rfl)
      · exact own_apart h.row (k1.ints y hy).2 (by decide) k e1 (by rw [e2]; rfl))).ca
    rw [k2] at this
    exact this
  · exact hcv.stay (f.then fs (fun j hj e => by omega))
end Go.Proofs.YtlmlmhinbkcpoaaDoor

namespace Go.Proofs.YtlmlmhinbkcpoaaDoor
open Go.RowKit (wrap32 wrap64)
set_option linter.unusedVariables false
set_option linter.unusedSimpArgs false

/-- A function is written over. -/
def fn4 (w : World) (g q : Nat) (f : PF) (cv : Value) : World := (((w.setCell ⟨g, q, none⟩ (vI f.P)).setCell ⟨g, q + 1, none⟩ (vI f.R)).setCell ⟨g, q + 2, none⟩ (vI f.V)).setCell ⟨g, q + 3, none⟩ cv
theorem fn4_fr (w : World) (g q : Nat) (f : PF) (cv : Value) : Fr (fun j => j = g) w (fn4 w g q f cv) := ((((setCell_fr w g q _).trans (setCell_fr _ g (q + 1) _)).trans (setCell_fr _ g (q + 2) _)).trans (setCell_fr _ g (q + 3) _))
theorem fn4_row {w : World} {B g cap i : Nat} {N : List (PF × Value)} (h : w.ownsRow B 30 4 (.slice (some ⟨g, 0, none⟩) N.length cap) N.length (N.flatMap rowP)) (hi : i < N.length) (f : PF) (cv : Value) :
    (fn4 w g (i * 4) f cv).ownsRow B 30 4 (.slice (some ⟨g, 0, none⟩) N.length cap) N.length ((N.set i (f, cv)).flatMap rowP) := by
  have step : ∀ {w : World} {x y : PF × Value} {o : Nat} {u : Value}, o < 4 → w.ownsRow B 30 4 (.slice (some ⟨g, 0, none⟩) N.length cap) N.length ((N.set i x).flatMap rowP) → rowP y = (rowP x).set o u → (w.setCell ⟨g, i * 4 + o, none⟩ u).ownsRow B 30 4 (.slice (some ⟨g, 0, none⟩) N.length cap) N.length ((N.set i y).flatMap rowP) := fun {w x y o u} ho hw he => by
    have hs := (row_set (j := i * 4 + o) hw u).1
    have hl : i < (N.set i x).length := by rw [List.length_set]; exact hi
    rw [← flat_set rowP 4 (fun _ => rfl) o ho u (N.set i x) i hl y (by rw [List.getElem_set_self]; exact he), List.set_set] at hs
    exact hs
  have h0 : w.ownsRow B 30 4 (.slice (some ⟨g, 0, none⟩) N.length cap) N.length ((N.set i N[i]).flatMap rowP) := by rw [List.set_getElem_self]; exact h
  have h1 := step (o := 0) (u := vI f.P) (y := ({ N[i].1 with P := f.P }, N[i].2)) (by omega) h0 rfl
  have h2 := step (o := 1) (u := vI f.R) (y := ({ N[i].1 with P := f.P, R := f.R }, N[i].2)) (by omega) h1 rfl
  have h3 := step (o := 2) (u := vI f.V) (y := ({ N[i].1 with P := f.P, R := f.R, V := f.V }, N[i].2)) (by omega) h2 rfl
  exact step (o := 3) (u := cv) (y := (f, cv)) (by omega) h3 rfl
theorem fo_fun {w : World} {B i g cap : Nat} {L : List FI} {w0 : World} {cv : Value} {f : PF} (h : FO w B (.slice (some ⟨g, 0, none⟩) L.length cap) L) (hi : i < L.length) (hB : w0.heap.size ≤ B) (fr : Fr (fun _ => False) w0 w) (hcv : CA w0 cv f.code) :
    FA (fn4 w g (i * 4) f cv) (.slice (some ⟨g, 0, none⟩) L.length cap) ((L.map (·.1)).set i f) := by
  have hN : (rowN L).length = L.length := by unfold rowN; simp
  have hrow := h.row
  rw [← rowN_flat, ← hN] at hrow
  have hge := (World.ownsRow.lt hrow g rfl).1
  have fs := fn4_fr w g (i * 4) f cv
  have hset := fn4_row hrow (i := i) (by omega) f cv
  have hfa := fn_set hrow (by omega) hset (fun j hj hne => ?_) ?_
  · rw [hN] at hfa
    have e : ((rowN L).set i (f, cv)).map (·.1) = (L.map (·.1)).set i f := by
      rw [List.map_set]
      unfold rowN
      rw [List.map_map]
      rfl
    rw [e] at hfa
    exact hfa
  · have hj' : j < L.length := by omega
    have e : (rowN L)[j] = (L[j].1, L[j].2.1) := by simp only [rowN, List.getElem_map]
    rw [e]
    obtain ⟨k1, k2⟩ := h.code L[j] (List.getElem_mem hj')
    have := (k1.fr fs (fun k e1 e2 => own_apart h.row k1.row (by decide) k e1 (by rw [e2]; rfl)) (fun y hy k e1 e2 => by
      rcases e1 with e1 | e1
      · exact own_apart h.row (k1.ints y hy).1 (by decide) k e1 (by rw [e2]; rfl)
      · exact own_apart h.row (k1.ints y hy).2 (by decide) k e1 (by rw [e2]; rfl))).ca
    rw [k2] at this
    exact this
  · exact hcv.stay (fr.then fs (fun j hj e => by omega))
/-- A summary is written over. -/
def sm2 (w : World) (g q : Nat) (hv rv : Value) : World := (w.setCell ⟨g, q, none⟩ hv).setCell ⟨g, q + 1, none⟩ rv
theorem sm2_fr (w : World) (g q : Nat) (hv rv : Value) : Fr (fun j => j = g) w (sm2 w g q hv rv) := (setCell_fr w g q _).trans (setCell_fr _ g (q + 1) _)
abbrev rowU (x : Value × Value) : List Value := [x.1, x.2]
def rowM (L : List SI) : List (Value × Value) := L.map fun x => (x.2.1, x.2.2.1)
theorem rowM_flat : ∀ L : List SI, (rowM L).flatMap rowU = L.flatMap rowS
  | [] => rfl
  | x :: L => by
    show rowU (x.2.1, x.2.2.1) ++ (rowM L).flatMap rowU = rowS x ++ L.flatMap rowS
    rw [rowM_flat L]
theorem ss_sum {w : World} {B i g cap : Nat} {L : List SI} {w0 : World} {hv rv : Value} {s : PS} (h : SsO w B (.slice (some ⟨g, 0, none⟩) L.length cap) L) (hi : i < L.length) (hB : w0.heap.size ≤ B) (fr : Fr (fun _ => False) w0 w) (h1 : IA w0 hv s.H) (h2 : LA w0 rv s.R) :
    SsA (sm2 w g (i * 2) hv rv) (.slice (some ⟨g, 0, none⟩) L.length cap) ((L.map (·.1)).set i s) := by
  have hN : (rowM L).length = L.length := by unfold rowM; simp
  have hrow := h.row
  rw [← rowM_flat, ← hN] at hrow
  have hge := (World.ownsRow.lt hrow g rfl).1
  have fs := sm2_fr w g (i * 2) hv rv
  have hgl := (World.ownsRow.lt hrow g rfl).2
  have hset : (sm2 w g (i * 2) hv rv).ownsRow B 34 2 (.slice (some ⟨g, 0, none⟩) (rowM L).length cap) (rowM L).length (((rowM L).set i (hv, rv)).flatMap rowU) := by
    have step : ∀ {w : World} {x y : Value × Value} {o : Nat} {u : Value}, o < 2 → w.ownsRow B 34 2 (.slice (some ⟨g, 0, none⟩) (rowM L).length cap) (rowM L).length (((rowM L).set i x).flatMap rowU) → rowU y = (rowU x).set o u → (w.setCell ⟨g, i * 2 + o, none⟩ u).ownsRow B 34 2 (.slice (some ⟨g, 0, none⟩) (rowM L).length cap) (rowM L).length (((rowM L).set i y).flatMap rowU) := fun {w x y o u} ho hw he => by
      have hs := (row_set (j := i * 2 + o) hw u).1
      have hl : i < ((rowM L).set i x).length := by rw [List.length_set]; omega
      rw [← flat_set rowU 2 (fun _ => rfl) o ho u ((rowM L).set i x) i hl y (by rw [List.getElem_set_self]; exact he), List.set_set] at hs
      exact hs
    have h0 : w.ownsRow B 34 2 (.slice (some ⟨g, 0, none⟩) (rowM L).length cap) (rowM L).length (((rowM L).set i ((rowM L)[i]'(by omega))).flatMap rowU) := by rw [List.set_getElem_self]; exact hrow
    have k1 := step (o := 0) (u := hv) (y := (hv, ((rowM L)[i]'(by omega)).2)) (by omega) h0 rfl
    exact step (o := 1) (u := rv) (y := (hv, rv)) (by omega) k1 rfl
  refine ⟨some ⟨g, 0, none⟩, cap, by simp, fun _ => ⟨g, 0, rfl, Nat.lt_of_lt_of_le hgl fs.size, fun j hj => ?_⟩⟩
  have hj' : j < L.length := by simpa using hj
  have hjM : j < ((rowM L).set i (hv, rv)).length := by rw [List.length_set]; omega
  have pc : ∀ o u, o < 2 → (rowU (((rowM L).set i (hv, rv))[j]))[o]? = some u → (sm2 w g (i * 2) hv rv).cell? ⟨g, j * 2 + o, none⟩ = some u := fun o u ho hu => by
    obtain ⟨g', cap', e', -, hc⟩ := own_cell hset (j := j * 2 + o) (u := u) (by rw [flat_get rowU 2 (fun _ => rfl) _ j o hjM ho]; exact hu)
    cases e'
    exact hc
  rw [Nat.zero_add]
  refine ⟨_, _, pc 0 _ (by omega) rfl, pc 1 _ (by omega) rfl, ?_⟩
  rw [List.getElem_set, List.getElem_set]
  split
  · have := fr.then fs (fun j hj e => by omega)
    exact ⟨h1.stay this, h2.stay this⟩
  · have e : (rowM L)[j]'(by omega) = (L[j].2.1, L[j].2.2.1) := by simp only [rowM, List.getElem_map]
    rw [e]
    have hS := h.each L[j] (List.getElem_mem hj')
    have := (hS.other fs (fun k e1 e2 => own_apart h.row hS.oh (by decide) k e1 (by rw [e2]; rfl)) (fun k e1 e2 => own_apart h.row hS.lo.row (by decide) k e1 (by rw [e2]; rfl)) (fun i hi k e1 e2 => own_apart h.row (hS.lo.each i hi (by have := hS.lo.ul; omega)) (by decide) k e1 (by rw [e2]; rfl))).sa
    simp only [List.getElem_map]
    exact this
end Go.Proofs.YtlmlmhinbkcpoaaDoor

namespace Go.Proofs.YtlmlmhinbkcpoaaDoor
open Go.RowKit (wrap32 wrap64)
set_option linter.unusedVariables false
set_option linter.unusedSimpArgs false

theorem SsO.far {S : Nat → Prop} {w w' : World} {B : Nat} {v : Value} {L : List SI} (h : SsO w B v L) (f : Fr S w w') (hS : ∀ k, S k → k < B) : SsO w' B v L := by
  have no : ∀ k, B ≤ k → ¬ S k := fun k hk e => by have := hS k e; omega
  refine ⟨ownsRow_frL h.row f (fun k e => no k (World.ownsRow.lt h.row k e).1), fun x hx => ?_⟩
  have hx := h.each x hx
  exact hx.other f (fun k e => no k (hx.oh.ge k e).1) (fun k e => no k (World.ownsRow.lt hx.lo.row k e).1) (fun i hi k e => no k ((hx.lo.each i hi (by have := hx.lo.ul; omega)).ge k e).1)
theorem fa_after {S : Nat → Prop} {w w9 : World} {B g cap i : Nat} {L : List FI} {x : PF × Value} (h : FO w B (.slice (some ⟨g, 0, none⟩) L.length cap) L) (f : Fr S w w9) (hS : ∀ k, S k → k = g ∨ w.heap.size ≤ k) (hi : i < L.length)
    (hw : w9.ownsRow B 30 4 (.slice (some ⟨g, 0, none⟩) L.length cap) L.length (((rowN L).set i x).flatMap rowP)) (hx : CA w9 x.2 x.1.code) : FA w9 (.slice (some ⟨g, 0, none⟩) L.length cap) ((L.map (·.1)).set i x.1) := by
  have hN : (rowN L).length = L.length := by unfold rowN; simp
  have hfa := fa_of_row (B := B) (N := (rowN L).set i x) (w := w9) (v := .slice (some ⟨g, 0, none⟩) L.length cap) (by rw [List.length_set, hN]; exact hw) (fun y hy => ?_)
  · have e : ((rowN L).set i x).map (·.1) = (L.map (·.1)).set i x.1 := by
      rw [List.map_set]
      unfold rowN
      rw [List.map_map]
      rfl
    rw [e] at hfa
    exact hfa
  · obtain ⟨j, hj, rfl⟩ := List.mem_iff_getElem.1 hy
    rw [List.getElem_set]
    split
    · exact hx
    · have hj' : j < L.length := by rw [List.length_set, hN] at hj; exact hj
      have e : (rowN L)[j]'(by omega) = (L[j].1, L[j].2.1) := by simp only [rowN, List.getElem_map]
      rw [e]
      obtain ⟨k1, k2⟩ := h.code L[j] (List.getElem_mem hj')
      have := (k1.fr f (fun k e1 e2 => by
        rcases hS k e2 with e3 | e3
        · exact own_apart h.row k1.row (by decide) k e1 (by rw [e3]; rfl)
        · have := (World.ownsRow.lt k1.row k e1).2; omega) (fun y hy k e1 e2 => by
        rcases e1 with e1 | e1
        · rcases hS k e2 with e3 | e3
          · exact own_apart h.row (k1.ints y hy).1 (by decide) k e1 (by rw [e3]; rfl)
          · have := ((k1.ints y hy).1.ge k e1).2; omega
        · rcases hS k e2 with e3 | e3
          · exact own_apart h.row (k1.ints y hy).2 (by decide) k e1 (by rw [e3]; rfl)
          · have := ((k1.ints y hy).2.ge k e1).2; omega)).ca
      rw [k2] at this
      exact this
theorem fine_set {fs : List PF} {g : Nat} {f : PF} (h : FineP fs) (hf : FineC f.code) : FineP (fs.set g f) := by
  refine ⟨by rw [List.length_set]; exact h.1, fun x hx => ?_⟩
  rcases List.mem_or_eq_of_mem_set hx with hx | rfl
  · exact h.2 x hx
  · exact hf
theorem fineS_set {ss : List PS} {g : Nat} {s : PS} (h : FineS ss) (hs : s.H.length ≤ 17592186043904 ∧ s.R.length ≤ 5864062014634 ∧ ∀ l ∈ s.R, l.length ≤ 17592186043904) : FineS (ss.set g s) := by
  refine ⟨by rw [List.length_set]; exact h.1, fun x hx => ?_⟩
  rcases List.mem_or_eq_of_mem_set hx with hx | rfl
  · exact h.2 x hx
  · exact hs
abbrev funO (f : PF) (cv : Value) : Obj := .cells #[vI f.P, vI f.R, vI f.V, cv] 30
abbrev sumO (hv rv : Value) : Obj := .cells #[hv, rv] 34
/-- Two answers of Edges are alike. -/
def Ans (G : Int) (fs : List PF) (F : Int) (ss : List PS) (W : World) (x e : Value) : Prop :=
  (¬ EdgOk G fs F ss ∧ x = .slice none 0 0 ∧ e = vI 1) ∨ ∃ (i : Nat) (h : i < fs.length), F = i ∧ ss.length = fs.length ∧ checkP G (aloneP fs fs[i]) = 0 ∧ toldX fs ss fs[i].code = true ∧ e = vI 0 ∧ W.ownsRow 0 47 3 x (edgX ss fs[i]).length ((edgX ss fs[i]).flatMap edC)
theorem EdgE.ans {G : Int} {fs : List PF} {F : Int} {ss : List PS} {w w' : World} {e : Ending} (h : EdgE G fs F ss w e w') : ∃ xv xe, e = .returned (.tuple #[xv, xe]) ∧ Ans G fs F ss w' xv xe := by
  rcases h.2 with ⟨hn, he⟩ | ⟨i, h, k1, k2, k3, k4, v, he, ho⟩
  · exact ⟨_, _, he, Or.inl ⟨hn, rfl, rfl⟩⟩
  · exact ⟨_, _, he, Or.inr ⟨i, h, k1, k2, k3, k4, rfl, World.ownsRow.mono ho (Nat.zero_le _)⟩⟩
theorem Ans.stay {G : Int} {fs : List PF} {F : Int} {ss : List PS} {W W' : World} {x e : Value} (h : Ans G fs F ss W x e) (f : Fr (fun _ => False) W W') : Ans G fs F ss W' x e := by
  rcases h with h | ⟨i, h, k1, k2, k3, k4, k5, k6⟩
  · exact Or.inl h
  · exact Or.inr ⟨i, h, k1, k2, k3, k4, k5, ownsRow_frL k6 f (fun _ _ e => e)⟩
/-- What EqEdges says of two answers that speak of alike programs. -/
theorem Ans.eq {G : Int} {fs fs' : List PF} {i : Nat} {ss ss' : List PS} {W : World} {x e x' e' : Value} (h : Ans G fs i ss W x e) (h' : Ans G fs' i ss' W x' e') (hi : i < fs.length) (hi' : i < fs'.length) (he : fs'[i] = fs[i]) (ha : Alike fs[i].code fs fs' ss ss') :
    (∃ z : Int, e = vI z ∧ e' = vI z) ∧ (∃ a n c, x = .slice a n c) ∧ (∃ a n c, x' = .slice a n c) ∧ Calls Tryd.prog 13 #[x, x'] W fun e w' => e = .returned (.bool true) ∧ Fr (fun _ => False) W w' := by
  have hok := ha.ok (G := G) hi hi' he
  rcases h with ⟨hn, rfl, rfl⟩ | ⟨j, hj, k1, k2, k3, k4, rfl, k6⟩
  · rcases h' with ⟨hn', rfl, rfl⟩ | ⟨j', hj', m1, m2, m3, m4, rfl, m6⟩
    · exact ⟨⟨1, rfl, rfl⟩, ⟨_, _, _, rfl⟩, ⟨_, _, _, rfl⟩, eqEdges_same _ _ [] W (World.ownsRow_nil _ _ _ _) (World.ownsRow_nil _ _ _ _) (by simp)⟩
    · exact absurd (hok.1 ⟨j', m1, hj', m2, m3, m4⟩) hn
  · obtain rfl : i = j := by omega
    rcases h' with ⟨hn', rfl, rfl⟩ | ⟨j', hj', m1, m2, m3, m4, rfl, m6⟩
    · exact absurd (hok.2 ⟨i, rfl, hj, k2, k3, k4⟩) hn'
    · obtain rfl : i = j' := by omega
      have hE : edgX ss' fs'[i] = edgX ss fs[i] := by
        rw [he]
        exact ha.edg (fun c hc e => by
          obtain ⟨q, hq, -⟩ := (right_ok k3).call c hc e
          omega)
      rw [hE] at m6
      obtain ⟨a1, c1, e1⟩ := own_slice k6
      obtain ⟨a2, c2, e2⟩ := own_slice m6
      have hl := edgX_len (right_ok k3) k4 k2
      exact ⟨⟨0, rfl, rfl⟩, ⟨_, _, _, e1⟩, ⟨_, _, _, e2⟩, eqEdges_same _ _ _ W k6 m6 (by omega)⟩
end Go.Proofs.YtlmlmhinbkcpoaaDoor
