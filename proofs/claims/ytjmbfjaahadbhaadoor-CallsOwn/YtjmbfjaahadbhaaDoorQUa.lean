import Derived.Test.YtjmbfjaahadbhaaDoorQN4J
import Derived.Test.YtjmbfjaahadbhaaDoorQRaJ
import Derived.Deep.Onto
import Derived.Deep.DeepCutAuto
set_option linter.unusedVariables false
set_option linter.unusedSimpArgs false
namespace Go.Proofs.YtjmbfjaahadbhaaDoor
open Go.RowKit (wrap32 wrap64)

def SmC (N : Nat) (cs : List PI) : Prop := cs.length ≤ N ∧ ∀ c ∈ cs, c.args.length ≤ N ∧ c.rets.length ≤ N
theorem SmC.mono {a b : Nat} {cs : List PI} (h : SmC a cs) (hab : a ≤ b) : SmC b cs := ⟨Nat.le_trans h.1 hab, fun c hc => ⟨Nat.le_trans (h.2 c hc).1 hab, Nat.le_trans (h.2 c hc).2 hab⟩⟩

theorem Fr.drewN {S : Nat → Prop} {a w : World} (h : Fr S a w) (n : Nat) : Fr S a (w.drewN n) := ⟨h.os, h.tape, h.output, h.size, h.block⟩
theorem long1_any (n : Nat) (w : World) : Calls Tryd.prog 17 #[vI n] w fun e w' => e = .returned (.bool (decide (2147483647 < n))) ∧ w' = w := by
  go_enter Tryd.func17, Tryd.ntmps17
  go_wp2
  go_ret
  refine ⟨?_, rfl⟩
  congr 2
  simp
  omega

set_option maxRecDepth 100000 in
set_option maxHeartbeats 2000000 in
theorem long_any (G : Int) (fv : Value) (fs : List PF) (w : World) (h : FA w fv fs) (hn : FineP fs) :
    Calls Tryd.prog 16 #[.agg #[vI G, fv]] w fun e w' => ∃ b, e = .returned (.bool b) ∧ Fr (fun _ => False) w w' ∧ (b = false → fs.length ≤ 2147483647 ∧ ∀ f ∈ fs, SmC 2147483647 f.code) := by
  obtain ⟨a1, b1, e1, h0⟩ := h
  have H0 : Hd (fs ≠ [] → _) := h0
  have HFI : Hd (FineP fs) := hn
  have hfl : fs.length ≤ 2932031007317 := hn.1
  obtain ⟨wa, hwa⟩ : ∃ wa, wa = w.alloc (.cells #[vI G, fv] 24) := ⟨_, rfl⟩
  have hF : Fr (fun _ => False) w wa := by rw [hwa]; exact Fr.alloc (Fr.refl _ w) _
  have b1' : wa.heap[w.heap.size]? = some (.cells #[vI G, fv] 24) := by rw [hwa]; exact heap_new w _
  have HWA : Hd (wa = w.alloc (.cells #[vI G, fv] 24)) := hwa
  have HF : Hd (Fr (fun _ => False) w wa) := hF
  obtain ⟨H, hH⟩ : ∃ H, H = w.heap.size := ⟨_, rfl⟩
  have HH : Hd (H = w.heap.size) := hH
  rw [← hH] at b1'
  have B1 : Hd (wa.heap[H]? = some (.cells #[vI G, fv] 24)) := b1'
  have c1 : wa.cell? ⟨H, 1, none⟩ = some fv := by rw [cell_of0 b1']; rfl
  subst e1
  clear hF hwa hH b1' h0 hn
  go_enter Tryd.func16, Tryd.ntmps16
  go_upto_region 1 with fail
  rw [← HWA.out, ← HH.out]
  clear HWA
  go_wp2_with fail
  clear c1
  go_loopw [3, 4] (fun nv v wr => ∃ (n k : Nat), nv = .int .i64 n ∧ v = .int .i64 k ∧ k ≤ fs.length ∧ n ≤ 40000000000000 ∧ Hd (fs.length ≤ n) ∧ Hd (2147483647 < n ∨ ∀ f ∈ fs.take k, SmC n f.code) ∧ Hd (Fr (fun _ => False) wa wr)) (fun _ v _ => match v with | .int _ q => fs.length - q.toNat | _ => 0)
  case atStart => exact ⟨fs.length, 0, rfl, rfl, Nat.zero_le _, by omega, Nat.le_refl _, Or.inr (fun f hf => by simp at hf), Fr.refl _ _⟩
  case round =>
    obtain ⟨n, k, rfl, rfl, hk, hnn, HFN, HS, HFr⟩ := hrel
    have c1 : wr.cell? ⟨H, 1, none⟩ = some (.slice a1 fs.length b1) := by rw [HFr.out.cell (heap_lt B1.out) (fun e => e), cell_of B1.out]; rfl
    by_cases hlt : k < fs.length
    · by_cases hL : n ≤ 2147483647
      · have hdL : decide (2147483647 < n) = false := by simp; omega
        have hk0 : (0 : Int) ≤ k := by omega
        have hk1 : (k : Int) < fs.length := by omega
        obtain ⟨fk, fo, rfl, hfk, hcells⟩ := H0.out (by intro e; simp [e] at hlt)
        obtain ⟨cv, f0, f1, f2, f3, hcv⟩ := hcells k hlt
        have hC : FineC fs[k].code := HFI.out.2 _ (List.getElem_mem hlt)
        have HT : Hd (fs.take (k + 1) = fs.take k ++ [fs[k]]) := by unfold Hd; rw [List.take_add_one, List.getElem?_eq_getElem hlt]; rfl
        have HS2 : Hd (∀ f ∈ fs.take k, SmC n f.code) := by
          rcases HS.out with h | h
          · omega
          · exact h
        have q3 := ((HF.out.trans HFr.out).cell (o := fo + k * 4 + 3) hfk (fun e => e)).trans f3
        generalize fs[k] = f at *
        obtain ⟨ca, cc, rfl, hcc⟩ := hcv
        have HCC : Hd (f.code ≠ [] → _) := hcc
        have HFC : Hd (FineC f.code) := hC
        have hcl : f.code.length ≤ 1599289640354 := hC.1
        have HFO : Hd (∀ wx, Fr (fun _ => False) wa wx → wx.cell? ⟨fk, fo + k * 4 + 3, none⟩ = some (.slice ca f.code.length cc)) := fun wx hx => ((HF.out.trans hx).cell (o := fo + k * 4 + 3) hfk (fun e => e)).trans f3
        clear hcells f0 f1 f2 f3 hcc hC
        go_wp2_with ((refine (show Calls Tryd.prog 17 #[vI (n : Int)] _ _ from long1_any n _).mono ?_; rintro e wl ⟨rfl, rfl⟩))
        clear q3 c1
        obtain ⟨n0, hn0⟩ : ∃ n0, n0 = n := ⟨_, rfl⟩
        have HN0 : Hd (n0 = n) := hn0
        clear hn0
        go_loopw [3, 5] (fun nv v wr => ∃ (m j : Nat), nv = .int .i64 m ∧ v = .int .i64 j ∧ j ≤ f.code.length ∧ m ≤ 40000000000000 ∧ Hd (n ≤ m ∧ f.code.length ≤ m) ∧ Hd (2147483647 < m ∨ ∀ c ∈ f.code.take j, c.args.length ≤ m ∧ c.rets.length ≤ m) ∧ Hd (Fr (fun _ => False) wa wr)) (fun _ v _ => match v with | .int _ q => f.code.length - q.toNat | _ => 0)
        case atStart => exact ⟨n + f.code.length, 0, by simp, rfl, Nat.zero_le _, by omega, ⟨by omega, by omega⟩, Or.inr (fun c hc => by simp at hc), HFr.out⟩
        case round =>
          clear HFr
          obtain ⟨m, j, rfl, rfl, hj, hm, HM, HS3, HFr⟩ := hrel
          have c1 : wr.cell? ⟨H, 1, none⟩ = some (.slice (some ⟨fk, fo, none⟩) fs.length b1) := by rw [HFr.out.cell (heap_lt B1.out) (fun e => e), cell_of B1.out]; rfl
          have q3 := HFO.out wr HFr.out
          have HFN2 : Hd (fs.length ≤ m) := by have := HFN.out; have := HM.out.1; unfold Hd; omega
          by_cases hltj : j < f.code.length
          · by_cases hLm : m ≤ 2147483647
            · have hdm : decide (2147483647 < m) = false := by simp; omega
              have hj0 : (0 : Int) ≤ j := by omega
              have hj1 : (j : Int) < f.code.length := by omega
              obtain ⟨ck, co, rfl, hck, hcs⟩ := HCC.out (by intro e; simp [e] at hltj)
              obtain ⟨av, rv, -, -, -, -, -, p5, p6, ia, ir⟩ := hcs j hltj
              have p5 := ((HF.out.trans HFr.out).cell (o := co + j * 7 + 5) hck (fun e => e)).trans p5
              have p6 := ((HF.out.trans HFr.out).cell (o := co + j * 7 + 6) hck (fun e => e)).trans p6
              have hb := HFC.out.2 _ (List.getElem_mem hltj)
              have HTj : Hd (f.code.take (j + 1) = f.code.take j ++ [f.code[j]]) := by unfold Hd; rw [List.take_add_one, List.getElem?_eq_getElem hltj]; rfl
              have HS4 : Hd (∀ c ∈ f.code.take j, c.args.length ≤ m ∧ c.rets.length ≤ m) := by
                rcases HS3.out with h | h
                · omega
                · exact h
              generalize f.code[j] = c at *
              obtain ⟨aa, ac, rfl, -⟩ := ia
              obtain ⟨ra, rc, rfl, -⟩ := ir
              have HM2 : Hd (n ≤ m + c.args.length + c.rets.length ∧ f.code.length ≤ m + c.args.length + c.rets.length) := by have := HM.out; unfold Hd; omega
              have HS5 : Hd (2147483647 < m + c.args.length + c.rets.length ∨ ∀ x ∈ f.code.take (j + 1), x.args.length ≤ m + c.args.length + c.rets.length ∧ x.rets.length ≤ m + c.args.length + c.rets.length) := by
                right
                intro x hx
                rw [HTj.out] at hx
                rcases List.mem_append.1 hx with hx | hx
                · have := HS4.out x hx; omega
                · simp at hx; subst hx; omega
              have hb1 : c.args.length ≤ 17592186043904 := hb.1
              have hb2 : c.rets.length ≤ 17592186043904 := hb.2
              clear hcs hb HM HS3 HS4
              go_wp2_with ((refine (show Calls Tryd.prog 17 #[vI (m : Int)] _ _ from long1_any m _).mono ?_; rintro e wl ⟨rfl, rfl⟩))
              go_quiet (fail)
              go_wp2_with fail
              exact ⟨⟨m + c.args.length + c.rets.length, j + 1, by simp, by simp, by omega, by omega, HM2.out, HS5.out, HFr.out.drewN _⟩, by simp; omega⟩
            · have hdm : decide (2147483647 < m) = true := by simp; omega
              go_wp2_with ((refine (show Calls Tryd.prog 17 #[vI (m : Int)] _ _ from long1_any m _).mono ?_; rintro e wl ⟨rfl, rfl⟩))
              exact ⟨⟨m, k + 1, rfl, by simp, by omega, hm, HFN2.out, Or.inl (by omega), HFr.out⟩, by simp; omega⟩
          · have HS5 : Hd (2147483647 < m ∨ ∀ x ∈ fs.take (k + 1), SmC m x.code) := by
              rcases HS3.out with h | h
              · exact Or.inl h
              · right
                intro x hx
                rw [HT.out] at hx
                rcases List.mem_append.1 hx with hx | hx
                · exact (HS2.out x hx).mono HM.out.1
                · simp at hx; subst hx
                  exact ⟨HM.out.2, fun c hc => h c (by rw [List.take_of_length_le (by omega)]; exact hc)⟩
            have hdj : decide ((j : Int) < f.code.length) = false := by simp; omega
            go_wp2_with fail
            exact ⟨⟨m, k + 1, rfl, by simp, by omega, hm, HFN2.out, HS5.out, HFr.out⟩, by simp; omega⟩
      · have hdL : decide (2147483647 < n) = true := by simp; omega
        go_wp2_with ((refine (show Calls Tryd.prog 17 #[vI (n : Int)] _ _ from long1_any n _).mono ?_; rintro e wl ⟨rfl, rfl⟩))
        go_ret
        exact ⟨_, rfl, HF.out.trans HFr.out, fun e => by simp at e⟩
    · have HE : Hd (decide (2147483647 < n) = false → fs.length ≤ 2147483647 ∧ ∀ f ∈ fs, SmC 2147483647 f.code) := fun e => by
        have hn' : n ≤ 2147483647 := by simpa using e
        refine ⟨Nat.le_trans HFN.out hn', fun f hf => ?_⟩
        rcases HS.out with h | h
        · omega
        · rw [List.take_of_length_le (by omega)] at h
          exact (h f hf).mono hn'
      go_wp2_with ((refine (show Calls Tryd.prog 17 #[vI (n : Int)] _ _ from long1_any n _).mono ?_; rintro e wl ⟨rfl, rfl⟩))
      go_ret
      exact ⟨_, rfl, HF.out.trans HFr.out, HE.out⟩


/-! ### summaries beyond the bound? -/
end Go.Proofs.YtjmbfjaahadbhaaDoor
