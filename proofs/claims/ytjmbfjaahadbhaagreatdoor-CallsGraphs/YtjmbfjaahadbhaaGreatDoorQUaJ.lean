import Derived.Test.YtjmbfjaahadbhaaGreatDoorQN4J
import Derived.Test.YtjmbfjaahadbhaaGreatDoorQRaJ
import Derived.Deep.Onto
import Derived.Deep.DeepCutAuto
import Derived.Test.YtjmbfjaahadbhaaGreatDoorQLiJ
import Derived.Test.YtjmbfjaahadbhaaGreatDoorQYcJ
import Derived.Test.YtjmbfjaahadbhaaGreatDoorQXjJ
set_option linter.unusedVariables false
set_option linter.unusedSimpArgs false
namespace Go.Proofs.YtjmbfjaahadbhaaGreatDoor
open Go.RowKit (wrap32 wrap64)

def SmC (N : Nat) (cs : List PI) : Prop := cs.length ≤ N ∧ ∀ c ∈ cs, c.args.length ≤ N ∧ c.rets.length ≤ N
theorem SmC.mono {a b : Nat} {cs : List PI} (h : SmC a cs) (hab : a ≤ b) : SmC b cs := ⟨Nat.le_trans h.1 hab, fun c hc => ⟨Nat.le_trans (h.2 c hc).1 hab, Nat.le_trans (h.2 c hc).2 hab⟩⟩

theorem long1_any (n : Nat) (w : World) : Calls Tryz.prog 5 #[vI n] w fun e w' => e = .returned (.bool (decide (2147483647 < n))) ∧ w' = w := by
  go_enter Tryz.func5, Tryz.ntmps5
  go_wp2
  go_ret
  refine ⟨?_, rfl⟩
  congr 2
  simp
  omega

set_option maxRecDepth 100000 in
set_option maxHeartbeats 2000000 in
theorem long_any (G : Int) (fv : Value) (fs : List PF) (w : World) (h : FA w fv fs) (hn : FineP fs) :
    Calls Tryz.prog 4 #[.agg #[vI G, fv]] w fun e w' => ∃ b, e = .returned (.bool b) ∧ Fr (fun _ => False) w w' ∧ (b = false → fs.length ≤ 2147483647 ∧ ∀ f ∈ fs, SmC 2147483647 f.code) := by
  obtain ⟨a1, b1, e1, h0⟩ := h
  have H0 : Hd (fs ≠ [] → _) := h0
  have HFI : Hd (FineP fs) := hn
  have hfl : fs.length ≤ 2932031007317 := hn.1
  obtain ⟨wa, hwa⟩ : ∃ wa, wa = w.alloc (.cells #[vI G, fv] 24) := ⟨_, rfl⟩
  have hF : Fr (fun _ => False) w wa := by rw [hwa]; exact Fr.alloc (Fr.refl _ w) _
  have b1' : wa.heap[w.heap.size]? = some (.cells #[vI G, fv] 24) := by rw [hwa]; exact heap_new w _
  have HWA : Hd (wa = w.alloc (.cells #[vI G, fv] 24)) := hwa
  have HF : Hd (Fr (fun _ => False) w wa) := hF
  obtain ⟨H, hH⟩ : ∃ H, H = w.heap.size := ⟨_, rfl⟩
  have HH : Hd (H = w.heap.size) := hH
  rw [← hH] at b1'
  have B1 : Hd (wa.heap[H]? = some (.cells #[vI G, fv] 24)) := b1'
  have c1 : wa.cell? ⟨H, 1, none⟩ = some fv := by rw [cell_of0 b1']; rfl
  subst e1
  clear hF hwa hH b1' h0 hn
  go_enter Tryz.func4, Tryz.ntmps4
  go_upto_region 1 with fail
  rw [← HWA.out, ← HH.out]
  clear HWA
  go_wp2_with fail
  clear c1
  go_loopw [3, 4] (fun nv v wr => ∃ (n k : Nat), nv = .int .i64 n ∧ v = .int .i64 k ∧ k ≤ fs.length ∧ n ≤ 40000000000000 ∧ Hd (fs.length ≤ n) ∧ Hd (2147483647 < n ∨ ∀ f ∈ fs.take k, SmC n f.code) ∧ Hd (Fr (fun _ => False) wa wr)) (fun _ v _ => match v with | .int _ q => fs.length - q.toNat | _ => 0)
  case atStart => exact ⟨fs.length, 0, rfl, rfl, Nat.zero_le _, by omega, Nat.le_refl _, Or.inr (fun f hf => by simp at hf), Fr.refl _ _⟩
  case round =>
    obtain ⟨n, k, rfl, rfl, hk, hnn, HFN, HS, HFr⟩ := hrel
    have c1 : wr.cell? ⟨H, 1, none⟩ = some (.slice a1 fs.length b1) := by rw [HFr.out.cell (heap_lt B1.out) (fun e => e), cell_of B1.out]; rfl
    by_cases hlt : k < fs.length
    · by_cases hL : n ≤ 2147483647
      · have hdL : decide (2147483647 < n) = false := by simp; omega
        have hk0 : (0 : Int) ≤ k := by omega
        have hk1 : (k : Int) < fs.length := by omega
        obtain ⟨fk, fo, rfl, hfk, hcells⟩ := H0.out (by intro e; simp [e] at hlt)
        obtain ⟨cv, f0, f1, f2, f3, hcv⟩ := hcells k hlt
        have hC : FineC fs[k].code := HFI.out.2 _ (List.getElem_mem hlt)
        have HT : Hd (fs.take (k + 1) = fs.take k ++ [fs[k]]) := by unfold Hd; rw [List.take_add_one, List.getElem?_eq_getElem hlt]; rfl
        have HS2 : Hd (∀ f ∈ fs.take k, SmC n f.code) := by
          rcases HS.out with h | h
          · omega
          · exact h
        have q3 := ((HF.out.trans HFr.out).cell (o := fo + k * 4 + 3) hfk (fun e => e)).trans f3
        generalize fs[k] = f at *
        obtain ⟨ca, cc, rfl, hcc⟩ := hcv
        have HCC : Hd (f.code ≠ [] → _) := hcc
        have HFC : Hd (FineC f.code) := hC
        have hcl : f.code.length ≤ 1599289640354 := hC.1
        have HFO : Hd (∀ wx, Fr (fun _ => False) wa wx → wx.cell? ⟨fk, fo + k * 4 + 3, none⟩ = some (.slice ca f.code.length cc)) := fun wx hx => ((HF.out.trans hx).cell (o := fo + k * 4 + 3) hfk (fun e => e)).trans f3
        clear hcells f0 f1 f2 f3 hcc hC
        go_wp2_with ((refine (show Calls Tryz.prog 5 #[vI (n : Int)] _ _ from long1_any n _).mono ?_; rintro e wl ⟨rfl, rfl⟩))
        clear q3 c1
        obtain ⟨n0, hn0⟩ : ∃ n0, n0 = n := ⟨_, rfl⟩
        have HN0 : Hd (n0 = n) := hn0
        clear hn0
        go_loopw [3, 5] (fun nv v wr => ∃ (m j : Nat), nv = .int .i64 m ∧ v = .int .i64 j ∧ j ≤ f.code.length ∧ m ≤ 40000000000000 ∧ Hd (n ≤ m ∧ f.code.length ≤ m) ∧ Hd (2147483647 < m ∨ ∀ c ∈ f.code.take j, c.args.length ≤ m ∧ c.rets.length ≤ m) ∧ Hd (Fr (fun _ => False) wa wr)) (fun _ v _ => match v with | .int _ q => f.code.length - q.toNat | _ => 0)
        case atStart => exact ⟨n + f.code.length, 0, by simp, rfl, Nat.zero_le _, by omega, ⟨by omega, by omega⟩, Or.inr (fun c hc => by simp at hc), HFr.out⟩
        case round =>
          clear HFr
          obtain ⟨m, j, rfl, rfl, hj, hm, HM, HS3, HFr⟩ := hrel
          have c1 : wr.cell? ⟨H, 1, none⟩ = some (.slice (some ⟨fk, fo, none⟩) fs.length b1) := by rw [HFr.out.cell (heap_lt B1.out) (fun e => e), cell_of B1.out]; rfl
          have q3 := HFO.out wr HFr.out
          have HFN2 : Hd (fs.length ≤ m) := by have := HFN.out; have := HM.out.1; unfold Hd; omega
          by_cases hltj : j < f.code.length
          · by_cases hLm : m ≤ 2147483647
            · have hdm : decide (2147483647 < m) = false := by simp; omega
              have hj0 : (0 : Int) ≤ j := by omega
              have hj1 : (j : Int) < f.code.length := by omega
              obtain ⟨ck, co, rfl, hck, hcs⟩ := HCC.out (by intro e; simp [e] at hltj)
              obtain ⟨av, rv, -, -, -, -, -, p5, p6, ia, ir⟩ := hcs j hltj
              have p5 := ((HF.out.trans HFr.out).cell (o := co + j * 7 + 5) hck (fun e => e)).trans p5
              have p6 := ((HF.out.trans HFr.out).cell (o := co + j * 7 + 6) hck (fun e => e)).trans p6
              have hb := HFC.out.2 _ (List.getElem_mem hltj)
              have HTj : Hd (f.code.take (j + 1) = f.code.take j ++ [f.code[j]]) := by unfold Hd; rw [List.take_add_one, List.getElem?_eq_getElem hltj]; rfl
              have HS4 : Hd (∀ c ∈ f.code.take j, c.args.length ≤ m ∧ c.rets.length ≤ m) := by
                rcases HS3.out with h | h
                · omega
                · exact h
              generalize f.code[j] = c at *
              obtain ⟨aa, ac, rfl, -⟩ := ia
              obtain ⟨ra, rc, rfl, -⟩ := ir
              have HM2 : Hd (n ≤ m + c.args.length + c.rets.length ∧ f.code.length ≤ m + c.args.length + c.rets.length) := by have := HM.out; unfold Hd; omega
              have HS5 : Hd (2147483647 < m + c.args.length + c.rets.length ∨ ∀ x ∈ f.code.take (j + 1), x.args.length ≤ m + c.args.length + c.rets.length ∧ x.rets.length ≤ m + c.args.length + c.rets.length) := by
                right
                intro x hx
                rw [HTj.out] at hx
                rcases List.mem_append.1 hx with hx | hx
                · have := HS4.out x hx; omega
                · simp at hx; subst hx; omega
              have hb1 : c.args.length ≤ 17592186043904 := hb.1
              have hb2 : c.rets.length ≤ 17592186043904 := hb.2
              clear hcs hb HM HS3 HS4
              go_wp2_with ((refine (show Calls Tryz.prog 5 #[vI (m : Int)] _ _ from long1_any m _).mono ?_; rintro e wl ⟨rfl, rfl⟩))
              go_quiet (fail)
              go_wp2_with fail
              exact ⟨⟨m + c.args.length + c.rets.length, j + 1, by simp, by simp, by omega, by omega, HM2.out, HS5.out, HFr.out.drewN _⟩, by simp; omega⟩
            · have hdm : decide (2147483647 < m) = true := by simp; omega
              go_wp2_with ((refine (show Calls Tryz.prog 5 #[vI (m : Int)] _ _ from long1_any m _).mono ?_; rintro e wl ⟨rfl, rfl⟩))
              exact ⟨⟨m, k + 1, rfl, by simp, by omega, hm, HFN2.out, Or.inl (by omega), HFr.out⟩, by simp; omega⟩
          · have HS5 : Hd (2147483647 < m ∨ ∀ x ∈ fs.take (k + 1), SmC m x.code) := by
              rcases HS3.out with h | h
              · exact Or.inl h
              · right
                intro x hx
                rw [HT.out] at hx
                rcases List.mem_append.1 hx with hx | hx
                · exact (HS2.out x hx).mono HM.out.1
                · simp at hx; subst hx
                  exact ⟨HM.out.2, fun c hc => h c (by rw [List.take_of_length_le (by omega)]; exact hc)⟩
            have hdj : decide ((j : Int) < f.code.length) = false := by simp; omega
            go_wp2_with fail
            exact ⟨⟨m, k + 1, rfl, by simp, by omega, hm, HFN2.out, HS5.out, HFr.out⟩, by simp; omega⟩
      · have hdL : decide (2147483647 < n) = true := by simp; omega
        go_wp2_with ((refine (show Calls Tryz.prog 5 #[vI (n : Int)] _ _ from long1_any n _).mono ?_; rintro e wl ⟨rfl, rfl⟩))
        go_ret
        exact ⟨_, rfl, HF.out.trans HFr.out, fun e => by simp at e⟩
    · have HE : Hd (decide (2147483647 < n) = false → fs.length ≤ 2147483647 ∧ ∀ f ∈ fs, SmC 2147483647 f.code) := fun e => by
        have hn' : n ≤ 2147483647 := by simpa using e
        refine ⟨Nat.le_trans HFN.out hn', fun f hf => ?_⟩
        rcases HS.out with h | h
        · omega
        · rw [List.take_of_length_le (by omega)] at h
          exact (h f hf).mono hn'
      go_wp2_with ((refine (show Calls Tryz.prog 5 #[vI (n : Int)] _ _ from long1_any n _).mono ?_; rintro e wl ⟨rfl, rfl⟩))
      go_ret
      exact ⟨_, rfl, HF.out.trans HFr.out, HE.out⟩


/-! ### summaries beyond the bound? -/

/-! ### three functions, of which the first calls the others, the second the third -/
abbrev cI (n : Int) : PI := ⟨11, 0, 0, 0, n, [], []⟩
abbrev bI : PI := ⟨15, 0, 0, 0, 0, [], []⟩
def fs3 : List PF := [⟨0, 0, 0, [cI 1, cI 2, bI]⟩, ⟨0, 0, 0, [cI 2, bI]⟩, ⟨0, 0, 0, [bI]⟩]
theorem fs3_check : checkP 0 fs3 = 0 := by kernel_rfl
theorem fs3_cl : clX fs3 0 = [1, 2] ∧ clX fs3 1 = [2] ∧ ∀ x, 2 ≤ x → clX fs3 x = [] := by
  refine ⟨rfl, rfl, fun x hx => ?_⟩
  by_cases e : x = 2
  · rw [e]; rfl
  · unfold clX
    rw [List.getElem?_eq_none (by show 3 ≤ x; omega)]
    rfl
theorem rch_up {cl : Nat → List Nat} (h : ∀ x, ∀ z ∈ cl x, x < z) {x y : Nat} (k : Rch cl x y) : x ≤ y := by
  induction k with
  | refl => exact Nat.le_refl _
  | step _ m ih => have := h _ _ m; omega
theorem fs3_up : ∀ x, ∀ z ∈ clX fs3 x, x < z := by
  obtain ⟨h0, h1, h2⟩ := fs3_cl
  intro x z hz
  by_cases e0 : x = 0
  · rw [e0, h0] at hz; simp at hz; omega
  · by_cases e1 : x = 1
    · rw [e1, h1] at hz; simp at hz; omega
    · rw [h2 x (by omega)] at hz; cases hz
theorem fs3_graph {n : Nat} {of : Nat → Nat} (h : Gp 3 (clX fs3) n of) : n = 3 ∧ of 2 = 0 ∧ of 1 = 1 ∧ of 0 = 2 ∧ cleX 3 3 of (clX fs3) 2 = [0, 1] ∧ clrX 3 3 of (clX fs3) 0 = [1, 2] := by
  obtain ⟨l0, l1, l2⟩ := fs3_cl
  have r01 : Rch (clX fs3) 0 1 := .step (.refl 0) (by rw [l0]; simp)
  have r12 : Rch (clX fs3) 1 2 := .step (.refl 1) (by rw [l1]; simp)
  have d1 := h.dn 0 1 (by omega) (by omega) r01
  have d2 := h.dn 1 2 (by omega) (by omega) r12
  have n1 : of 0 ≠ of 1 := fun e => by
    have := rch_up fs3_up ((h.eq 0 1 (by omega) (by omega)).1 e).2
    omega
  have n2 : of 1 ≠ of 2 := fun e => by
    have := rch_up fs3_up ((h.eq 1 2 (by omega) (by omega)).1 e).2
    omega
  have b0 := h.lt 0 (by omega)
  have on : ∀ c, c < n → c = of 0 ∨ c = of 1 ∨ c = of 2 := fun c hc => by
    obtain ⟨x, hx, e⟩ := h.on c hc
    have : x = 0 ∨ x = 1 ∨ x = 2 := by omega
    rcases this with e2 | e2 | e2 <;> subst e2 <;> omega
  have o0 := on 0 (by omega)
  have o1 := on (n - 1) (by omega)
  have o2 := on 1 (by omega)
  have o3 := on 2 (by omega)
  have hn : n = 3 := by
    by_cases e : n = 3
    · exact e
    · have := on 3
      omega
  subst hn
  have e2 : of 2 = 0 := by omega
  have e1 : of 1 = 1 := by omega
  have e0 : of 0 = 2 := by omega
  have h20 : hitX 3 of (clX fs3) 2 0 = true := hitX_iff.2 ⟨0, by omega, e0, 2, by rw [l0]; simp, e2⟩
  have h21 : hitX 3 of (clX fs3) 2 1 = true := hitX_iff.2 ⟨0, by omega, e0, 1, by rw [l0]; simp, e1⟩
  have h10 : hitX 3 of (clX fs3) 1 0 = true := hitX_iff.2 ⟨1, by omega, e1, 2, by rw [l1]; simp, e2⟩
  refine ⟨rfl, e2, e1, e0, ?_, ?_⟩
  · simp [cleX, List.range_succ, h20, h21]
  · simp [clrX, List.range_succ, h20, h10]
abbrev iV (op n : Int) : Value := .agg #[vI op, vI 0, vI 0, vI 0, vI n, .slice none 0 0, .slice none 0 0]
set_option maxRecDepth 100000 in
set_option maxHeartbeats 1000000 in
theorem back_any (w : World) : Calls Tryz.prog 13 #[] w fun e w' => e = .returned (iV 15 0) ∧ Fr (fun _ => False) w w' := by
  have hb : (w.alloc (.cells #[vI 15, vI 0, vI 0, vI 0, vI 0, .slice none 0 0, .slice none 0 0] 43)).heap[w.heap.size]? = some (.cells #[vI 15, vI 0, vI 0, vI 0, vI 0, .slice none 0 0, .slice none 0 0] 43) := heap_new0 w _
  have HF : Hd (Fr (fun _ => False) w (w.alloc (.cells #[vI 15, vI 0, vI 0, vI 0, vI 0, .slice none 0 0, .slice none 0 0] 43))) := Fr.alloc (Fr.refl _ w) _
  have HB : Hd ((w.alloc (.cells #[vI 15, vI 0, vI 0, vI 0, vI 0, .slice none 0 0, .slice none 0 0] 43)).heap[w.heap.size]? = some (.cells #[vI 15, vI 0, vI 0, vI 0, vI 0, .slice none 0 0, .slice none 0 0] 43)) := hb
  clear hb
  go_enter Tryz.func13, Tryz.ntmps13
  go_wp2_with fail
  generalize w.alloc (.cells #[vI 15, vI 0, vI 0, vI 0, vI 0, .slice none 0 0, .slice none 0 0] 43) = wz at *
  generalize w.heap.size = X at *
  have e0 : wz.cell? ⟨X, 0, none⟩ = some (vI 15) := by rw [cell_of0 HB.out]; rfl
  have e1 : wz.cell? ⟨X, 1, none⟩ = some (vI 0) := by rw [cell_of0 HB.out]; rfl
  have e2 : wz.cell? ⟨X, 2, none⟩ = some (vI 0) := by rw [cell_of0 HB.out]; rfl
  have e3 : wz.cell? ⟨X, 3, none⟩ = some (vI 0) := by rw [cell_of0 HB.out]; rfl
  have e4 : wz.cell? ⟨X, 4, none⟩ = some (vI 0) := by rw [cell_of0 HB.out]; rfl
  have e5 : wz.cell? ⟨X, 5, none⟩ = some (.slice none 0 0) := by rw [cell_of0 HB.out]; rfl
  have e6 : wz.cell? ⟨X, 6, none⟩ = some (.slice none 0 0) := by rw [cell_of0 HB.out]; rfl
  refine bodyPost_ret (v := iV 15 0) ?_ rfl ⟨rfl, HF.out⟩
  rw [results_cell (p := 0) (ty := 43) Tryz.results13]
  simp [go_sem, e0, e1, e2, e3, e4, e5, e6]
theorem ia_nil (w : World) : IA w (.slice none 0 0) [] := ⟨none, 0, rfl, fun h => absurd rfl h⟩
theorem ca_lit {w : World} {k : Nat} {cs : List PI} {arr : Array Value} (h : w.heap[k]? = some (.cells arr 43)) (hc : ∀ j (h : j < cs.length), arr[j * 7]? = some (vI cs[j].op) ∧ arr[j * 7 + 1]? = some (vI cs[j].r) ∧ arr[j * 7 + 2]? = some (vI cs[j].s) ∧ arr[j * 7 + 3]? = some (vI cs[j].t) ∧ arr[j * 7 + 4]? = some (vI cs[j].n) ∧ arr[j * 7 + 5]? = some (.slice none 0 0) ∧ arr[j * 7 + 6]? = some (.slice none 0 0) ∧ cs[j].args = [] ∧ cs[j].rets = []) : CA w (.slice (some ⟨k, 0, none⟩) cs.length cs.length) cs := by
  refine ⟨_, cs.length, rfl, fun _ => ⟨k, 0, rfl, heap_lt0 h, fun j hj => ?_⟩⟩
  obtain ⟨h0, h1, h2, h3, h4, h5, h6, h7, h8⟩ := hc j hj
  have m : ∀ o, w.cell? ⟨k, 0 + o, none⟩ = arr[o]? := fun o => by rw [Nat.zero_add, cell_of0 h]
  refine ⟨.slice none 0 0, .slice none 0 0, (m _).trans h0, (m (j * 7 + 1)).trans h1, (m (j * 7 + 2)).trans h2, (m (j * 7 + 3)).trans h3, (m (j * 7 + 4)).trans h4, (m (j * 7 + 5)).trans h5, (m (j * 7 + 6)).trans h6, ?_, ?_⟩
  · rw [h7]; exact ia_nil w
  · rw [h8]; exact ia_nil w
abbrev iC (op n : Int) : List Value := [vI op, vI 0, vI 0, vI 0, vI n, .slice none 0 0, .slice none 0 0]
theorem fs3_fa {w : World} {k0 k1 k2 kf : Nat} (h0 : w.heap[k0]? = some (.cells #[vI 11, vI 0, vI 0, vI 0, vI 1, .slice none 0 0, .slice none 0 0, vI 11, vI 0, vI 0, vI 0, vI 2, .slice none 0 0, .slice none 0 0, vI 15, vI 0, vI 0, vI 0, vI 0, .slice none 0 0, .slice none 0 0] 43)) (h1 : w.heap[k1]? = some (.cells #[vI 11, vI 0, vI 0, vI 0, vI 2, .slice none 0 0, .slice none 0 0, vI 15, vI 0, vI 0, vI 0, vI 0, .slice none 0 0, .slice none 0 0] 43)) (h2 : w.heap[k2]? = some (.cells #[vI 15, vI 0, vI 0, vI 0, vI 0, .slice none 0 0, .slice none 0 0] 43))
    (hf : w.heap[kf]? = some (.cells #[vI 0, vI 0, vI 0, .slice (some ⟨k0, 0, none⟩) 3 3, vI 0, vI 0, vI 0, .slice (some ⟨k1, 0, none⟩) 2 2, vI 0, vI 0, vI 0, .slice (some ⟨k2, 0, none⟩) 1 1] 41)) : FA w (.slice (some ⟨kf, 0, none⟩) 3 3) fs3 := by
  have c0 : CA w (.slice (some ⟨k0, 0, none⟩) 3 3) [cI 1, cI 2, bI] := ca_lit (cs := [cI 1, cI 2, bI]) h0 (fun j hj => by
    have : j = 0 ∨ j = 1 ∨ j = 2 := by simp at hj; omega
    rcases this with rfl | rfl | rfl <;> exact ⟨rfl, rfl, rfl, rfl, rfl, rfl, rfl, rfl, rfl⟩)
  have c1 : CA w (.slice (some ⟨k1, 0, none⟩) 2 2) [cI 2, bI] := ca_lit (cs := [cI 2, bI]) h1 (fun j hj => by
    have : j = 0 ∨ j = 1 := by simp at hj; omega
    rcases this with rfl | rfl <;> exact ⟨rfl, rfl, rfl, rfl, rfl, rfl, rfl, rfl, rfl⟩)
  have c2 : CA w (.slice (some ⟨k2, 0, none⟩) 1 1) [bI] := ca_lit (cs := [bI]) h2 (fun j hj => by
    have : j = 0 := by simp at hj; omega
    subst this
    exact ⟨rfl, rfl, rfl, rfl, rfl, rfl, rfl, rfl, rfl⟩)
  refine ⟨_, 3, rfl, fun _ => ⟨kf, 0, rfl, heap_lt0 hf, fun j hj => ?_⟩⟩
  have m : ∀ o, w.cell? ⟨kf, 0 + o, none⟩ = (#[vI 0, vI 0, vI 0, .slice (some ⟨k0, 0, none⟩) 3 3, vI 0, vI 0, vI 0, .slice (some ⟨k1, 0, none⟩) 2 2, vI 0, vI 0, vI 0, .slice (some ⟨k2, 0, none⟩) 1 1] : Array Value)[o]? := fun o => by rw [Nat.zero_add, cell_of0 hf]
  have : j = 0 ∨ j = 1 ∨ j = 2 := by simp [fs3] at hj; omega
  rcases this with rfl | rfl | rfl
  · exact ⟨_, m 0, m 1, m 2, m 3, c0⟩
  · exact ⟨_, m 4, m 5, m 6, m 7, c1⟩
  · exact ⟨_, m 8, m 9, m 10, m 11, c2⟩
theorem fs3_fine : FineP fs3 := by
  refine ⟨by simp [fs3], fun f hf => ?_⟩
  simp [fs3] at hf
  rcases hf with rfl | rfl | rfl <;> refine ⟨by simp, fun c hc => ?_⟩ <;> simp at hc
  · rcases hc with rfl | rfl | rfl <;> simp
  · rcases hc with rfl | rfl <;> simp
  · subst hc; simp

theorem FinP.fine {fs : List PF} (h : FinP fs) : FineP fs := ⟨by have := h.1; omega, fun f hf => by
  obtain ⟨h1, h2⟩ := h.2 f hf
  exact ⟨by omega, fun c hc => by have := h2 c hc; omega⟩⟩
theorem finP_np {fs : List PF} (h : FinP fs) : ∀ i, i < fs.length → cnX fs i ≤ 2147483647 := fun i hi => by
  have hg : fs.getD i ⟨0, 0, 0, []⟩ = fs[i] := by simp [List.getD, hi]
  unfold cnX
  rw [hg]
  exact (h.2 _ (List.getElem_mem hi)).1
/-- Both graphs of a right program tell the same. -/
theorem likes_gd {G : Int} {fs : List PF} {w3 W : World} {b n B' bh : Nat} {of : Nat → Nat} (hck : checkP G fs = 0) (hgp : Gp fs.length (clX fs) n of) (hnN : n ≤ fs.length) (hg : GrN fs w3 W b n of) (hd : Dg W fs.length n of (clX fs) B' bh) (ov : Value) (l : List Int) (ho : IA W ov l) (hl : l.length ≤ 2147483647) :
    Calls Tryz.prog 12 #[.pointer (some ⟨b, 0, none⟩), .pointer (some ⟨bh, 0, none⟩), ov] W fun e w' => e = .returned (.bool true) ∧ Fr (fun _ => False) W w' := by
  obtain ⟨go, gm, ge, gr, mv, ev, rv, -, -, -, -, -, hga⟩ := hg
  obtain ⟨hN1, hN2⟩ := check_len hck
  obtain ⟨hok, hcl⟩ := check_calls hck
  have hn0 : 0 < n := by have := hgp.toRg.lt 0 (by omega); omega
  obtain ⟨lg, lo, lc, wg, wc, ck, co, cc, hdv⟩ := hd.dv (by omega) hn0
  exact likes_any W (ask_of hga hdv (fun x hx => clX_lt hok hx) (fun x hx => by have k0 := ddX_len (clX fs x); have k1 := clX_len hx; have k2 := hcl _ (List.getElem_mem hx); omega) (by omega) (by omega)) (fun W' f => glen_any W' (hga.stay f) (by omega)) (fun W' f => rlen_any (hdv.stay f) (by omega)) hdv.box (by omega) ov l ho hl
/-- What calls.New answers, and what the document's does. -/
def PgN (ck : Int) (fs : List PF) (w3 W : World) (gv : Option Addr) (n : Nat) (of : Nat → Nat) : Prop :=
  (ck ≠ 0 ∧ gv = none) ∨ (ck = 0 ∧ ∃ b : Nat, gv = some ⟨b, 0, none⟩ ∧ GrN fs w3 W b n of ∧ Gp fs.length (clX fs) n of ∧ n ≤ fs.length)
theorem NwE.pg {G : Int} {fs : List PF} {w : World} {e : Ending} {w' : World} (h : NwE G fs w e w') : Fr (fun _ => False) w w' ∧ ∃ gv n of, e = .returned (.tuple #[.pointer gv, vI (checkP G fs)]) ∧ PgN (checkP G fs) fs w w' gv n of := by
  refine ⟨h.1, ?_⟩
  rcases h.2 with ⟨h1, h2⟩ | ⟨h1, b, n, of, h2, h3, h4, h5⟩
  · exact ⟨none, 0, fun _ => 0, h2, Or.inl ⟨h1, rfl⟩⟩
  · exact ⟨some ⟨b, 0, none⟩, n, of, by rw [h1]; exact h2, Or.inr ⟨h1, b, rfl, h3, h4, h5⟩⟩
def PhN (ck : Int) (fs : List PF) (B : Nat) (W : World) (hv : Value) (n : Nat) (of : Nat → Nat) : Prop :=
  (ck ≠ 0 ∧ hv = .pointer none) ∨ (ck = 0 ∧ ∃ b, hv = .pointer (some ⟨b, 0, none⟩) ∧ Dg W fs.length n of (clX fs) B b)
theorem RnE.ph {G : Int} {fs : List PF} {n : Nat} {of : Nat → Nat} {w : World} {e : Ending} {w' : World} (h : RnE G fs n of w e w') : Fr (fun _ => False) w w' ∧ ∃ hv, e = .returned (.tuple #[hv, vI (checkP G fs)]) ∧ PhN (checkP G fs) fs w.heap.size w' hv n of := by
  refine ⟨h.1, ?_⟩
  rcases h.2 with ⟨h1, h2⟩ | ⟨h1, b, h2, h3⟩
  · exact ⟨_, h2, Or.inl ⟨h1, rfl⟩⟩
  · exact ⟨_, by rw [h1]; exact h2, Or.inr ⟨h1, b, rfl, h3⟩⟩
theorem PgN.gp {ck : Int} {fs : List PF} {w3 W : World} {gv : Option Addr} {n : Nat} {of : Nat → Nat} (h : PgN ck fs w3 W gv n of) : (ck = 0 → Gp fs.length (clX fs) n of) ∧ (ck = 0 → n ≤ fs.length) := by
  rcases h with ⟨h1, -⟩ | ⟨-, b, -, -, h4, h5⟩
  · exact ⟨fun e => absurd e h1, fun e => absurd e h1⟩
  · exact ⟨fun _ => h4, fun _ => h5⟩
theorem PgN.frS {S : Nat → Prop} {ck : Int} {fs : List PF} {w3 W W' : World} {gv : Option Addr} {n : Nat} {of : Nat → Nat} (h : PgN ck fs w3 W gv n of) (f : Fr S W W') (hS : ∀ q, w3.heap.size ≤ q → ¬ S q) : PgN ck fs w3 W' gv n of := by
  rcases h with h | ⟨h1, b, h2, h3, h4⟩
  · exact Or.inl h
  · exact Or.inr ⟨h1, b, h2, h3.frS f hS, h4⟩
theorem PhN.frS {S : Nat → Prop} {ck : Int} {fs : List PF} {B : Nat} {W W' : World} {hv : Value} {n : Nat} {of : Nat → Nat} (h : PhN ck fs B W hv n of) (f : Fr S W W') (hS : ∀ q, B ≤ q → ¬ S q) : PhN ck fs B W' hv n of := by
  rcases h with h | ⟨h1, b, h2, h3⟩
  · exact Or.inl h
  · exact Or.inr ⟨h1, b, h2, h3.frS f hS⟩
set_option maxRecDepth 100000 in
theorem PgN.nil {ck : Int} {fs : List PF} {w3 W : World} {gv : Option Addr} {n : Nat} {of : Nat → Nat} (h : PgN ck fs w3 W gv n of) (V : World) : (binOp .neq 29 (.pointer gv) (.pointer none)).run Tryz.prog V = .ok (.bool (decide (ck = 0))) V := by
  rcases h with ⟨h1, h2⟩ | ⟨h1, b, h2, -⟩
  · rw [h2, decide_eq_false h1]; first | rfl | kernel_rfl
  · rw [h2, decide_eq_true h1]; first | rfl | kernel_rfl
/-! ### the lists that are written over at last -/
structure Cz (w0 w : World) (B C X : Nat) (G : Int) (g N cap : Nat) (cn : Nat → Nat) (f : Nat) : Prop where
  box : w.heap[X]? = some (.cells #[vI G, .slice (some ⟨g, 0, none⟩) N cap] 24)
  fn : ∃ cs, w.heap[g]? = some (.cells cs 41) ∧ N * 4 ≤ cs.size ∧ ∀ i, f ≤ i → i < N → ∃ gc cc ds, cs[i * 4 + 3]? = some (.slice (some ⟨gc, 0, none⟩) (cn i) cc) ∧ (B ≤ gc ∧ gc < C) ∧ w.heap[gc]? = some (.cells ds 43) ∧ cn i * 7 ≤ ds.size
  gB : B ≤ g ∧ g < C
  fr : Fr (fun q => B ≤ q ∧ q < C) w0 w
structure Cy (w0 w : World) (B C X : Nat) (G : Int) (g N cap : Nat) (cn : Nat → Nat) (f gc cc : Nat) : Prop extends Cz w0 w B C X G g N cap cn f where
  pin : w.cell? ⟨g, f * 4 + 3, none⟩ = some (.slice (some ⟨gc, 0, none⟩) (cn f) cc)
  gcB : B ≤ gc ∧ gc < C
  code : ∃ ds, w.heap[gc]? = some (.cells ds 43) ∧ cn f * 7 ≤ ds.size
section
variable {w0 w : World} {B C X : Nat} {G : Int} {g N cap : Nat} {cn : Nat → Nat} {f gc cc : Nat}
theorem Cz.stay {w' : World} (h : Cz w0 w B C X G g N cap cn f) (k : Fr (fun _ => False) w w') : Cz w0 w' B C X G g N cap cn f := by
  obtain ⟨cs, h1, h2, h3⟩ := h.fn
  refine ⟨keepF h.box k, ⟨cs, keepF h1 k, h2, fun i hi hN => ?_⟩, h.gB, h.fr.then k (fun _ _ e => e.elim)⟩
  obtain ⟨gc, cc, ds, k1, k2, k3, k4⟩ := h3 i hi hN
  exact ⟨gc, cc, ds, k1, k2, keepF k3 k, k4⟩
theorem Cy.stay {w' : World} (h : Cy w0 w B C X G g N cap cn f gc cc) (k : Fr (fun _ => False) w w') : Cy w0 w' B C X G g N cap cn f gc cc := by
  obtain ⟨ds, hd, hs⟩ := h.code
  obtain ⟨cs, h1, -, -⟩ := h.fn
  exact ⟨h.toCz.stay k, (k.cell (heap_lt0 h1) (fun e => e)).trans h.pin, h.gcB, ds, keepF hd k, hs⟩
theorem Cz.cy (h : Cz w0 w B C X G g N cap cn f) (hf : f < N) : ∃ gc cc, Cy w0 w B C X G g N cap cn f gc cc := by
  obtain ⟨cs, h1, h2, h3⟩ := id h.fn
  obtain ⟨gc, cc, ds, k1, k2, k3, k4⟩ := h3 f (Nat.le_refl _) hf
  exact ⟨gc, cc, h, by rw [cell_of0 h1]; exact k1, k2, ds, k3, k4⟩
/-- A cell of the code is written over. -/
theorem Cy.set (h : Cy w0 w B C X G g N cap cn f gc cc) (hX : C ≤ X) (o : Nat) (v : Value) : Cy w0 (w.setCell ⟨gc, o, none⟩ v) B C X G g N cap cn f gc cc := by
  have k := setCell_fr w gc o v
  obtain ⟨ds, hd, hs⟩ := id h.code
  obtain ⟨cs, h1, h2, h3⟩ := id h.fn
  have hgc := h.gcB
  have hne : g ≠ gc := fun e => by
    rw [e, hd] at h1
    injection h1 with h1
    injection h1 with _ h1
    cases h1
  have hg' : (w.setCell ⟨gc, o, none⟩ v).heap[g]? = some (.cells cs 41) := (k.block g (heap_lt0 h1) hne).trans h1
  refine ⟨⟨(k.block X (heap_lt0 h.box) (by omega)).trans h.box, ⟨cs, hg', h2, fun i hi hN => ?_⟩, h.gB, h.fr.then k (fun q _ e => by have e : q = gc := e; subst e; exact hgc)⟩, ?_, hgc, _, set_of hd o v, by simpa using hs⟩
  · obtain ⟨gi, ci, di, k1, k2, k3, k4⟩ := h3 i hi hN
    by_cases e : gi = gc
    · subst e
      rw [hd] at k3
      injection k3 with k3
      injection k3 with k3 _
      subst k3
      exact ⟨gi, ci, _, k1, k2, set_of hd o v, by simpa using k4⟩
    · exact ⟨gi, ci, di, k1, k2, (k.block gi (heap_lt0 k3) e).trans k3, k4⟩
  · rw [cell_of0 hg', ← cell_of0 h1]; exact h.pin
theorem cy_some (h : Cy w0 w B C X G g N cap cn f gc cc) {o : Nat} (ho : o < cn f * 7) : ∃ v, w.cell? ⟨gc, o, none⟩ = Option.some v := by
  obtain ⟨ds, hd, hs⟩ := h.code
  exact ⟨ds[o]'(by omega), by rw [cell_of0 hd]; exact Array.getElem?_eq_getElem _⟩
theorem cz_some (h : Cz w0 w B C X G g N cap cn f) {o : Nat} (ho : o < N * 4) : ∃ v, w.cell? ⟨g, o, none⟩ = Option.some v := by
  obtain ⟨cs, h1, hs, -⟩ := h.fn
  exact ⟨cs[o]'(by omega), by rw [cell_of0 h1]; exact Array.getElem?_eq_getElem _⟩
theorem Cy.melt (h : Cy w0 w B C X G g N cap cn f gc cc) (o : Nat) : w.frozen? ⟨gc, o, none⟩ = false := by
  obtain ⟨ds, hd, -⟩ := h.code
  exact frozen_of hd o
theorem Cz.melt (h : Cz w0 w B C X G g N cap cn f) (o : Nat) : w.frozen? ⟨g, o, none⟩ = false := by
  obtain ⟨cs, h1, -⟩ := h.fn
  exact frozen_of h1 o
/-- A function is written over. -/
theorem Cz.next (h : Cz w0 w B C X G g N cap cn f) (hX : C ≤ X) (a b c d : Value) : Cz w0 ((((w.setCell ⟨g, f * 4, none⟩ a).setCell ⟨g, f * 4 + 1, none⟩ b).setCell ⟨g, f * 4 + 2, none⟩ c).setCell ⟨g, f * 4 + 3, none⟩ d) B C X G g N cap cn (f + 1) := by
  have one : ∀ (w : World) (cs : Array Value), w.heap[g]? = some (.cells cs 41) → ∀ o v, (w.setCell ⟨g, o, none⟩ v).heap[g]? = some (.cells (cs.setIfInBounds o v) 41) := fun w cs h o v => set_of h o v
  obtain ⟨cs, h1, h2, h3⟩ := id h.fn
  have k := ((setCell_fr w g (f * 4) a).trans (setCell_fr _ g (f * 4 + 1) b)).trans ((setCell_fr _ g (f * 4 + 2) c).trans (setCell_fr _ g (f * 4 + 3) d))
  have hgB := h.gB
  refine ⟨(k.block X (heap_lt0 h.box) (fun e => by have e : X = g := e; omega)).trans h.box, ⟨_, one _ _ (one _ _ (one _ _ (one _ _ h1 _ a) _ b) _ c) _ d, by simpa using h2, fun i hi hN => ?_⟩, hgB, h.fr.then k (fun q _ e => by have e : q = g := e; subst e; exact hgB)⟩
  obtain ⟨gi, ci, di, k1, k2, k3, k4⟩ := h3 i (by omega) hN
  have hne : gi ≠ g := fun e => by
    rw [e, h1] at k3
    injection k3 with k3
    injection k3 with _ k3
    cases k3
  refine ⟨gi, ci, di, ?_, k2, (k.block gi (heap_lt0 k3) hne).trans k3, k4⟩
  rw [Array.getElem?_setIfInBounds, if_neg (by omega), Array.getElem?_setIfInBounds, if_neg (by omega), Array.getElem?_setIfInBounds, if_neg (by omega), Array.getElem?_setIfInBounds, if_neg (by omega)]
  exact k1
theorem NP.cz {v : Value} (h : NP w B C v N cn) (hb : w.heap[X]? = some (.cells #[vI G, v] 24)) : ∃ g cap, v = .slice (some ⟨g, 0, none⟩) N cap ∧ Cz w w B C X G g N cap cn 0 := by
  obtain ⟨g, cap, cs, rfl, h1, h0, h2⟩ := h
  refine ⟨g, cap, rfl, hb, ⟨cs, h1, ?_, fun i _ hi => ?_⟩, h0, Fr.refl _ _⟩
  · by_cases hN : N = 0
    · omega
    · obtain ⟨a, b, c, gc, cc, -, -, -, k4, -⟩ := h2 (N - 1) (by omega)
      have := (Array.getElem?_eq_some_iff.1 k4).1
      omega
  · obtain ⟨a, b, c, gc, cc, -, -, -, k4, k5, ds, k6, k7⟩ := h2 i hi
    refine ⟨gc, cc, ds, k4, k5, k6, ?_⟩
    by_cases e : cn i = 0
    · rw [e]; omega
    · have := (k7 (cn i - 1) (by omega)).lt
      omega
end
end Go.Proofs.YtjmbfjaahadbhaaGreatDoor
