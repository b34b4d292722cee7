import Derived.Test.YtdkijecnnmncnaaGreatDoorQEbJ
import Derived.Test.YtdkijecnnmncnaaGreatDoorQD1J
import Derived.Test.YtdkijecnnmncnaaGreatDoorQEkJ
import Derived.Test.YtdkijecnnmncnaaGreatDoorQQfJ
import Derived.Deep.RegionHeld3
import Derived.BigQuiet
namespace Go.Proofs.YtdkijecnnmncnaaGreatDoor
open Go.RowKit (wrap32 wrap64)
set_option linter.unusedVariables false
set_option linter.unusedSimpArgs false
set_option maxRecDepth 100000
set_option maxHeartbeats 2000000
def SmC (N : Nat) (cs : List PI) : Prop := cs.length ≤ N ∧ ∀ c ∈ cs, c.args.length ≤ N ∧ c.rets.length ≤ N
theorem SmC.mono {a b : Nat} {cs : List PI} (h : SmC a cs) (hab : a ≤ b) : SmC b cs := ⟨Nat.le_trans h.1 hab, fun c hc => ⟨Nat.le_trans (h.2 c hc).1 hab, Nat.le_trans (h.2 c hc).2 hab⟩⟩
theorem Fr.drewN {S : Nat → Prop} {a w : World} (h : Fr S a w) (n : Nat) : Fr S a (w.drewN n) := ⟨h.os, h.tape, h.output, h.size, h.block⟩
theorem long1_any (n : Nat) (w : World) : Calls Tryz.prog 38 #[vI n] w fun e w' => e = .returned (.bool (decide (2147483647 < n))) ∧ w' = w := by
 go_enter Tryz.func38, Tryz.ntmps38
 go_wp2
 go_ret
 refine ⟨?_, rfl⟩
 congr 2
 simp
 omega
theorem long_any (G : Int) (fv : Value) (fs : List PF) (w : World) (h : FA w fv fs) (hn : FineP fs) :
 Calls Tryz.prog 8 #[.agg #[vI G, fv]] w fun e w' => ∃ b, e = .returned (.bool b) ∧ Fr (fun _ => False) w w' ∧ (b = false → fs.length ≤ 2147483647 ∧ ∀ f ∈ fs, SmC 2147483647 f.code) := by
 obtain ⟨a1, b1, e1, h0⟩ := h
 have H0 : Hd (fs ≠ [] → _) := h0
 have HFI : Hd (FineP fs) := hn
 have hfl : fs.length ≤ 2932031007317 := hn.1
 obtain ⟨wa, hwa⟩ : ∃ wa, wa = w.alloc (.cells #[vI G, fv] 24) := ⟨_, rfl⟩
 have hF : Fr (fun _ => False) w wa := by rw [hwa]; exact Fr.alloc (Fr.refl _ w) _
 have b1' : wa.heap[w.heap.size]? = some (.cells #[vI G, fv] 24) := by rw [hwa]; exact heap_new w _
 have HWA : Hd (wa = w.alloc (.cells #[vI G, fv] 24)) := hwa
 have HF : Hd (Fr (fun _ => False) w wa) := hF
 obtain ⟨H, hH⟩ : ∃ H, H = w.heap.size := ⟨_, rfl⟩
 have HH : Hd (H = w.heap.size) := hH
 rw [← hH] at b1'
 have B1 : Hd (wa.heap[H]? = some (.cells #[vI G, fv] 24)) := b1'
 have c1 : wa.cell? ⟨H, 1, none⟩ = some fv := by rw [cell_of0 b1']; rfl
 subst e1
 clear hF hwa hH b1' h0 hn
 go_enter Tryz.func8, Tryz.ntmps8
 go_upto_region 1 with fail
 rw [← HWA.out, ← HH.out]
 clear HWA
 go_wp2_with fail
 clear c1
 go_loopw [3, 4] (fun nv v wr => ∃ (n k : Nat), nv = .int .i64 n ∧ v = .int .i64 k ∧ k ≤ fs.length ∧ n ≤ 40000000000000 ∧ Hd (fs.length ≤ n) ∧ Hd (2147483647 < n ∨ ∀ f ∈ fs.take k, SmC n f.code) ∧ Hd (Fr (fun _ => False) wa wr)) (fun _ v _ => match v with | .int _ q => fs.length - q.toNat | _ => 0)
 case atStart => exact ⟨fs.length, 0, rfl, rfl, Nat.zero_le _, by omega, Nat.le_refl _, Or.inr (fun f hf => by simp at hf), Fr.refl _ _⟩
 case round =>
  obtain ⟨n, k, rfl, rfl, hk, hnn, HFN, HS, HFr⟩ := hrel
  have c1 : wr.cell? ⟨H, 1, none⟩ = some (.slice a1 fs.length b1) := by rw [HFr.out.cell (heap_lt B1.out) (fun e => e), cell_of B1.out]; rfl
  by_cases hlt : k < fs.length
  ·by_cases hL : n ≤ 2147483647
   ·have hdL : decide (2147483647 < n) = false := by simp; omega
    have hk0 : (0 : Int) ≤ k := by omega
    have hk1 : (k : Int) < fs.length := by omega
    obtain ⟨fk, fo, rfl, hfk, hcells⟩ := H0.out (by intro e; simp [e] at hlt)
    obtain ⟨cv, f0, f1, f2, f3, hcv⟩ := hcells k hlt
    have hC : FineC fs[k].code := HFI.out.2 _ (List.getElem_mem hlt)
    have HT : Hd (fs.take (k + 1) = fs.take k ++ [fs[k]]) := by unfold Hd; rw [List.take_add_one, List.getElem?_eq_getElem hlt]; rfl
    have HS2 : Hd (∀ f ∈ fs.take k, SmC n f.code) := by
     rcases HS.out with h | h
     ·omega
     ·exact h
    have q3 := ((HF.out.trans HFr.out).cell (o := fo + k * 4 + 3) hfk (fun e => e)).trans f3
    generalize fs[k] = f at *
    obtain ⟨ca, cc, rfl, hcc⟩ := hcv
    have HCC : Hd (f.code ≠ [] → _) := hcc
    have HFC : Hd (FineC f.code) := hC
    have hcl : f.code.length ≤ 1599289640354 := hC.1
    have HFO : Hd (∀ wx, Fr (fun _ => False) wa wx → wx.cell? ⟨fk, fo + k * 4 + 3, none⟩ = some (.slice ca f.code.length cc)) := fun wx hx => ((HF.out.trans hx).cell (o := fo + k * 4 + 3) hfk (fun e => e)).trans f3
    clear hcells f0 f1 f2 f3 hcc hC
    go_wp2_with ((refine (show Calls Tryz.prog 38 #[vI (n : Int)] _ _ from long1_any n _).mono ?_; rintro e wl ⟨rfl, rfl⟩))
    clear q3 c1
    obtain ⟨n0, hn0⟩ : ∃ n0, n0 = n := ⟨_, rfl⟩
    have HN0 : Hd (n0 = n) := hn0
    clear hn0
    go_loopw [3, 5] (fun nv v wr => ∃ (m j : Nat), nv = .int .i64 m ∧ v = .int .i64 j ∧ j ≤ f.code.length ∧ m ≤ 40000000000000 ∧ Hd (n ≤ m ∧ f.code.length ≤ m) ∧ Hd (2147483647 < m ∨ ∀ c ∈ f.code.take j, c.args.length ≤ m ∧ c.rets.length ≤ m) ∧ Hd (Fr (fun _ => False) wa wr)) (fun _ v _ => match v with | .int _ q => f.code.length - q.toNat | _ => 0)
    case atStart => exact ⟨n + f.code.length, 0, by simp, rfl, Nat.zero_le _, by omega, ⟨by omega, by omega⟩, Or.inr (fun c hc => by simp at hc), HFr.out⟩
    case round =>
     clear HFr
     obtain ⟨m, j, rfl, rfl, hj, hm, HM, HS3, HFr⟩ := hrel
     have c1 : wr.cell? ⟨H, 1, none⟩ = some (.slice (some ⟨fk, fo, none⟩) fs.length b1) := by rw [HFr.out.cell (heap_lt B1.out) (fun e => e), cell_of B1.out]; rfl
     have q3 := HFO.out wr HFr.out
     have HFN2 : Hd (fs.length ≤ m) := by have := HFN.out; have := HM.out.1; unfold Hd; omega
     by_cases hltj : j < f.code.length
     ·by_cases hLm : m ≤ 2147483647
      ·have hdm : decide (2147483647 < m) = false := by simp; omega
       have hj0 : (0 : Int) ≤ j := by omega
       have hj1 : (j : Int) < f.code.length := by omega
       obtain ⟨ck, co, rfl, hck, hcs⟩ := HCC.out (by intro e; simp [e] at hltj)
       obtain ⟨av, rv, -, -, -, -, -, p5, p6, ia, ir⟩ := hcs j hltj
       have p5 := ((HF.out.trans HFr.out).cell (o := co + j * 7 + 5) hck (fun e => e)).trans p5
       have p6 := ((HF.out.trans HFr.out).cell (o := co + j * 7 + 6) hck (fun e => e)).trans p6
       have hb := HFC.out.2 _ (List.getElem_mem hltj)
       have HTj : Hd (f.code.take (j + 1) = f.code.take j ++ [f.code[j]]) := by unfold Hd; rw [List.take_add_one, List.getElem?_eq_getElem hltj]; rfl
       have HS4 : Hd (∀ c ∈ f.code.take j, c.args.length ≤ m ∧ c.rets.length ≤ m) := by
        rcases HS3.out with h | h
        ·omega
        ·exact h
       generalize f.code[j] = c at *
       obtain ⟨aa, ac, rfl, -⟩ := ia
       obtain ⟨ra, rc, rfl, -⟩ := ir
       have HM2 : Hd (n ≤ m + c.args.length + c.rets.length ∧ f.code.length ≤ m + c.args.length + c.rets.length) := by have := HM.out; unfold Hd; omega
       have HS5 : Hd (2147483647 < m + c.args.length + c.rets.length ∨ ∀ x ∈ f.code.take (j + 1), x.args.length ≤ m + c.args.length + c.rets.length ∧ x.rets.length ≤ m + c.args.length + c.rets.length) := by
        right
        intro x hx
        rw [HTj.out] at hx
        rcases List.mem_append.1 hx with hx | hx
        ·have := HS4.out x hx; omega
        ·simp at hx; subst hx; omega
       have hb1 : c.args.length ≤ 17592186043904 := hb.1
       have hb2 : c.rets.length ≤ 17592186043904 := hb.2
       clear hcs hb HM HS3 HS4
       go_wp2_with ((refine (show Calls Tryz.prog 38 #[vI (m : Int)] _ _ from long1_any m _).mono ?_; rintro e wl ⟨rfl, rfl⟩))
       go_quiet (fail)
       go_wp2_with fail
       exact ⟨⟨m + c.args.length + c.rets.length, j + 1, by simp, by simp, by omega, by omega, HM2.out, HS5.out, HFr.out.drewN _⟩, by simp; omega⟩
      ·have hdm : decide (2147483647 < m) = true := by simp; omega
       go_wp2_with ((refine (show Calls Tryz.prog 38 #[vI (m : Int)] _ _ from long1_any m _).mono ?_; rintro e wl ⟨rfl, rfl⟩))
       exact ⟨⟨m, k + 1, rfl, by simp, by omega, hm, HFN2.out, Or.inl (by omega), HFr.out⟩, by simp; omega⟩
     ·have HS5 : Hd (2147483647 < m ∨ ∀ x ∈ fs.take (k + 1), SmC m x.code) := by
       rcases HS3.out with h | h
       ·exact Or.inl h
       ·right
        intro x hx
        rw [HT.out] at hx
        rcases List.mem_append.1 hx with hx | hx
        ·exact (HS2.out x hx).mono HM.out.1
        ·simp at hx; subst hx
         exact ⟨HM.out.2, fun c hc => h c (by rw [List.take_of_length_le (by omega)]; exact hc)⟩
      have hdj : decide ((j : Int) < f.code.length) = false := by simp; omega
      go_wp2_with fail
      exact ⟨⟨m, k + 1, rfl, by simp, by omega, hm, HFN2.out, HS5.out, HFr.out⟩, by simp; omega⟩
   ·have hdL : decide (2147483647 < n) = true := by simp; omega
    go_wp2_with ((refine (show Calls Tryz.prog 38 #[vI (n : Int)] _ _ from long1_any n _).mono ?_; rintro e wl ⟨rfl, rfl⟩))
    go_ret
    exact ⟨_, rfl, HF.out.trans HFr.out, fun e => by simp at e⟩
  ·have HE : Hd (decide (2147483647 < n) = false → fs.length ≤ 2147483647 ∧ ∀ f ∈ fs, SmC 2147483647 f.code) := fun e => by
    have hn' : n ≤ 2147483647 := by simpa using e
    refine ⟨Nat.le_trans HFN.out hn', fun f hf => ?_⟩
    rcases HS.out with h | h
    ·omega
    ·rw [List.take_of_length_le (by omega)] at h
     exact (h f hf).mono hn'
   go_wp2_with ((refine (show Calls Tryz.prog 38 #[vI (n : Int)] _ _ from long1_any n _).mono ?_; rintro e wl ⟨rfl, rfl⟩))
   go_ret
   exact ⟨_, rfl, HF.out.trans HFr.out, HE.out⟩
def SmS (N : Nat) (s : PS) : Prop := s.H.length ≤ N ∧ s.R.length ≤ N ∧ ∀ l ∈ s.R, l.length ≤ N
theorem SmS.mono {a b : Nat} {s : PS} (h : SmS a s) (hab : a ≤ b) : SmS b s := ⟨Nat.le_trans h.1 hab, Nat.le_trans h.2.1 hab, fun l hl => Nat.le_trans (h.2.2 l hl) hab⟩
theorem longSums_any (sv : Value) (ss : List PS) (w : World) (h : SsA w sv ss) (hn : FineS ss) :
 Calls Tryz.prog 9 #[sv] w fun e w' => ∃ b, e = .returned (.bool b) ∧ Fr (fun _ => False) w w' ∧ (b = false → ss.length ≤ 2147483647 ∧ ∀ s ∈ ss, SmS 2147483647 s) := by
 obtain ⟨a1, b1, rfl, h0⟩ := h
 have H0 : Hd (ss ≠ [] → _) := h0
 have HFI : Hd (FineS ss) := hn
 have hfl : ss.length ≤ 2932031007317 := hn.1
 clear h0 hn
 go_enter Tryz.func9, Tryz.ntmps9
 go_wp2_with fail
 go_loopw [3, 4] (fun nv v wr => ∃ (n k : Nat), nv = .int .i64 n ∧ v = .int .i64 k ∧ k ≤ ss.length ∧ n ≤ 40000000000000 ∧ Hd (ss.length ≤ n) ∧ Hd (2147483647 < n ∨ ∀ s ∈ ss.take k, SmS n s) ∧ Hd (Fr (fun _ => False) w wr)) (fun _ v _ => match v with | .int _ q => ss.length - q.toNat | _ => 0)
 case atStart => exact ⟨ss.length, 0, rfl, rfl, Nat.zero_le _, by omega, Nat.le_refl _, Or.inr (fun f hf => by simp at hf), Fr.refl _ _⟩
 case round =>
  obtain ⟨n, k, rfl, rfl, hk, hnn, HFN, HS, HFr⟩ := hrel
  by_cases hlt : k < ss.length
  ·by_cases hL : n ≤ 2147483647
   ·have hdL : decide (2147483647 < n) = false := by simp; omega
    have hk0 : (0 : Int) ≤ k := by omega
    have hk1 : (k : Int) < ss.length := by omega
    obtain ⟨fk, fo, rfl, hfk, hcells⟩ := H0.out (by intro e; simp [e] at hlt)
    obtain ⟨hv, rv, f0, f1, ih, il⟩ := hcells k hlt
    have hC := HFI.out.2 _ (List.getElem_mem hlt)
    have HT : Hd (ss.take (k + 1) = ss.take k ++ [ss[k]]) := by unfold Hd; rw [List.take_add_one, List.getElem?_eq_getElem hlt]; rfl
    have HS2 : Hd (∀ s ∈ ss.take k, SmS n s) := by
     rcases HS.out with h | h
     ·omega
     ·exact h
    generalize ss[k] = s at *
    obtain ⟨ha, hc, rfl, -⟩ := ih
    obtain ⟨ra, rc, rfl, hll⟩ := il
    have HLL : Hd (s.R ≠ [] → _) := hll
    have q0 := (HFr.out.cell (o := fo + k * 2) hfk (fun e => e)).trans f0
    have q1 := (HFr.out.cell (o := fo + k * 2 + 1) hfk (fun e => e)).trans f1
    have HFO : Hd (∀ wx, Fr (fun _ => False) w wx → wx.cell? ⟨fk, fo + k * 2 + 1, none⟩ = some (.slice ra s.R.length rc)) := fun wx hx => (hx.cell (o := fo + k * 2 + 1) hfk (fun e => e)).trans f1
    have hb1 : s.H.length ≤ 17592186043904 := hC.1
    have hb2 : s.R.length ≤ 5864062014634 := hC.2.1
    have HB3 : Hd (∀ l ∈ s.R, l.length ≤ 17592186043904) := hC.2.2
    clear hcells f0 f1 hll hC
    go_wp2_with ((refine (show Calls Tryz.prog 38 #[vI (n : Int)] _ _ from long1_any n _).mono ?_; rintro e wl ⟨rfl, rfl⟩))
    go_quiet (fail)
    go_wp2_with fail
    clear q0 q1
    go_loopw [3, 5] (fun nv v wr => ∃ (m j : Nat), nv = .int .i64 m ∧ v = .int .i64 j ∧ j ≤ s.R.length ∧ m ≤ 40000000000000 ∧ Hd (n ≤ m ∧ s.H.length ≤ m ∧ s.R.length ≤ m) ∧ Hd (2147483647 < m ∨ ∀ l ∈ s.R.take j, l.length ≤ m) ∧ Hd (Fr (fun _ => False) w wr)) (fun _ v _ => match v with | .int _ q => s.R.length - q.toNat | _ => 0)
    case atStart => exact ⟨n + s.H.length + s.R.length, 0, by simp, rfl, Nat.zero_le _, by omega, ⟨by omega, by omega, by omega⟩, Or.inr (fun c hc => by simp at hc), HFr.out.drewN _⟩
    case round =>
     clear HFr
     obtain ⟨m, j, rfl, rfl, hj, hm, HM, HS3, HFr⟩ := hrel
     have q1 := HFO.out wr HFr.out
     have HFN2 : Hd (ss.length ≤ m) := by have := HFN.out; have := HM.out.1; unfold Hd; omega
     by_cases hltj : j < s.R.length
     ·by_cases hLm : m ≤ 2147483647
      ·have hdm : decide (2147483647 < m) = false := by simp; omega
       have hj0 : (0 : Int) ≤ j := by omega
       have hj1 : (j : Int) < s.R.length := by omega
       obtain ⟨ck, co, rfl, hck, hcs⟩ := HLL.out (by intro e; simp [e] at hltj)
       obtain ⟨u, p0, ia⟩ := hcs j hltj
       have p0 := (HFr.out.cell (o := co + j) hck (fun e => e)).trans p0
       have hb := HB3.out _ (List.getElem_mem hltj)
       have HTj : Hd (s.R.take (j + 1) = s.R.take j ++ [s.R[j]]) := by unfold Hd; rw [List.take_add_one, List.getElem?_eq_getElem hltj]; rfl
       have HS4 : Hd (∀ l ∈ s.R.take j, l.length ≤ m) := by
        rcases HS3.out with h | h
        ·omega
        ·exact h
       generalize s.R[j] = c at *
       obtain ⟨aa, ac, rfl, -⟩ := ia
       have HM2 : Hd (n ≤ m + c.length ∧ s.H.length ≤ m + c.length ∧ s.R.length ≤ m + c.length) := by have := HM.out; unfold Hd; omega
       have HS5 : Hd (2147483647 < m + c.length ∨ ∀ x ∈ s.R.take (j + 1), x.length ≤ m + c.length) := by
        right
        intro x hx
        rw [HTj.out] at hx
        rcases List.mem_append.1 hx with hx | hx
        ·have := HS4.out x hx; omega
        ·simp at hx; subst hx; omega
       clear hcs HM HS3 HS4
       go_wp2_with ((refine (show Calls Tryz.prog 38 #[vI (m : Int)] _ _ from long1_any m _).mono ?_; rintro e wl ⟨rfl, rfl⟩))
       exact ⟨⟨m + c.length, j + 1, by simp, by simp, by omega, by omega, HM2.out, HS5.out, HFr.out⟩, by simp; omega⟩
      ·have hdm : decide (2147483647 < m) = true := by simp; omega
       go_wp2_with ((refine (show Calls Tryz.prog 38 #[vI (m : Int)] _ _ from long1_any m _).mono ?_; rintro e wl ⟨rfl, rfl⟩))
       exact ⟨⟨m, k + 1, rfl, by simp, by omega, hm, HFN2.out, Or.inl (by omega), HFr.out⟩, by simp; omega⟩
     ·have HS5 : Hd (2147483647 < m ∨ ∀ x ∈ ss.take (k + 1), SmS m x) := by
       rcases HS3.out with h | h
       ·exact Or.inl h
       ·right
        intro x hx
        rw [HT.out] at hx
        rcases List.mem_append.1 hx with hx | hx
        ·exact (HS2.out x hx).mono HM.out.1
        ·simp at hx; subst hx
         exact ⟨HM.out.2.1, HM.out.2.2, fun c hc => h c (by rw [List.take_of_length_le (by omega)]; exact hc)⟩
      have hdj : decide ((j : Int) < s.R.length) = false := by simp; omega
      go_wp2_with fail
      exact ⟨⟨m, k + 1, rfl, by simp, by omega, hm, HFN2.out, HS5.out, HFr.out⟩, by simp; omega⟩
   ·have hdL : decide (2147483647 < n) = true := by simp; omega
    go_wp2_with ((refine (show Calls Tryz.prog 38 #[vI (n : Int)] _ _ from long1_any n _).mono ?_; rintro e wl ⟨rfl, rfl⟩))
    go_ret
    exact ⟨_, rfl, HFr.out, fun e => by simp at e⟩
  ·have HE : Hd (decide (2147483647 < n) = false → ss.length ≤ 2147483647 ∧ ∀ s ∈ ss, SmS 2147483647 s) := fun e => by
    have hn' : n ≤ 2147483647 := by simpa using e
    refine ⟨Nat.le_trans HFN.out hn', fun f hf => ?_⟩
    rcases HS.out with h | h
    ·omega
    ·rw [List.take_of_length_le (by omega)] at h
     exact (h f hf).mono hn'
   go_wp2_with ((refine (show Calls Tryz.prog 38 #[vI (n : Int)] _ _ from long1_any n _).mono ?_; rintro e wl ⟨rfl, rfl⟩))
   go_ret
   exact ⟨_, rfl, HFr.out, HE.out⟩
end Go.Proofs.YtdkijecnnmncnaaGreatDoor
namespace Go.Proofs.YtdkijecnnmncnaaGreatDoor
open Go.RowKit (wrap32 wrap64)
set_option linter.unusedVariables false
set_option linter.unusedSimpArgs false
set_option maxRecDepth 100000
set_option maxHeartbeats 2000000
theorem IA.at {w : World} {v : Value} {l : List Int} {n : Nat} (h : IA w v l) (hn : l.length = n) : ∃ a c, v = .slice a n c ∧ ∀ i, i < n → ∃ k o, a = some ⟨k, o, none⟩ ∧ k < w.heap.size ∧ w.cell? ⟨k, o + i, none⟩ = some (vI (l.getD i 0)) := by
 obtain ⟨a, c, e, h⟩ := h
 refine ⟨a, c, by rw [e, hn], fun i hi => ?_⟩
 have hi' : i < l.length := by omega
 obtain ⟨k, o, e1, e2, e3⟩ := h (by intro e; simp [e] at hi')
 refine ⟨k, o, e1, e2, ?_⟩
 rw [e3 i hi']
 simp [hi']
theorem LA.at {w : World} {v : Value} {l : List (List Int)} {n : Nat} (h : LA w v l) (hn : l.length = n) : ∃ a c, v = .slice a n c ∧ ∀ i, i < n → ∃ k o u, a = some ⟨k, o, none⟩ ∧ k < w.heap.size ∧ w.cell? ⟨k, o + i, none⟩ = some u ∧ IA w u (l.getD i []) := by
 obtain ⟨a, c, e, h⟩ := h
 refine ⟨a, c, by rw [e, hn], fun i hi => ?_⟩
 have hi' : i < l.length := by omega
 obtain ⟨k, o, e1, e2, e3⟩ := h (by intro e; simp [e] at hi')
 obtain ⟨u, h1, h2⟩ := e3 i hi'
 refine ⟨k, o, u, e1, e2, h1, ?_⟩
 have : l.getD i [] = l[i] := by simp [hi']
 rw [this]
 exact h2
theorem above_true (x1 y1 x2 y2 : Value) (s t : PS) (w : World) (n : Nat) (h1 : IA w x1 s.H) (h2 : LA w y1 s.R) (h3 : IA w x2 t.H) (h4 : LA w y2 t.R) (hn : s.H.length = n) (n2 : s.R.length = n) (n3 : t.H.length = n) (n4 : t.R.length = n) (hnb : n ≤ 1000000)
 (hL : ∀ k, k < n → s.H.getD k 0 ≤ t.H.getD k 0 ∧ (s.R.getD k []).length = (t.R.getD k []).length ∧ (s.R.getD k []).length ≤ 1000000 ∧ ∀ j, j < (s.R.getD k []).length → (s.R.getD k []).getD j 0 ≤ (t.R.getD k []).getD j 0) :
 Calls Tryz.prog 14 #[.agg #[x1, y1], .agg #[x2, y2]] w fun e w' => e = .returned (.bool true) ∧ Fr (fun _ => False) w w' := by
 obtain ⟨a1, c1, rfl, g1⟩ := h1.at hn
 obtain ⟨a2, c2, rfl, g2⟩ := h2.at n2
 obtain ⟨a3, c3, rfl, g3⟩ := h3.at n3
 obtain ⟨a4, c4, rfl, g4⟩ := h4.at n4
 have HL : Hd (∀ k, k < n → s.H.getD k 0 ≤ t.H.getD k 0 ∧ (s.R.getD k []).length = (t.R.getD k []).length ∧ (s.R.getD k []).length ≤ 1000000 ∧ ∀ j, j < (s.R.getD k []).length → (s.R.getD k []).getD j 0 ≤ (t.R.getD k []).getD j 0) := hL
 have G1 : Hd (∀ i, i < n → ∃ k o, a1 = some ⟨k, o, none⟩ ∧ k < w.heap.size ∧ w.cell? ⟨k, o + i, none⟩ = some (vI (s.H.getD i 0))) := g1
 have G2 : Hd (∀ i, i < n → ∃ k o u, a2 = some ⟨k, o, none⟩ ∧ k < w.heap.size ∧ w.cell? ⟨k, o + i, none⟩ = some u ∧ IA w u (s.R.getD i [])) := g2
 have G3 : Hd (∀ i, i < n → ∃ k o, a3 = some ⟨k, o, none⟩ ∧ k < w.heap.size ∧ w.cell? ⟨k, o + i, none⟩ = some (vI (t.H.getD i 0))) := g3
 have G4 : Hd (∀ i, i < n → ∃ k o u, a4 = some ⟨k, o, none⟩ ∧ k < w.heap.size ∧ w.cell? ⟨k, o + i, none⟩ = some u ∧ IA w u (t.R.getD i [])) := g4
 obtain ⟨wa, hwa⟩ : ∃ wa, wa = (w.alloc (.cells #[.slice a1 n c1, .slice a2 n c2] 33)).alloc (.cells #[.slice a3 n c3, .slice a4 n c4] 33) := ⟨_, rfl⟩
 have HWA : Hd (wa = (w.alloc (.cells #[.slice a1 n c1, .slice a2 n c2] 33)).alloc (.cells #[.slice a3 n c3, .slice a4 n c4] 33)) := hwa
 obtain ⟨H, hH⟩ : ∃ H, H = w.heap.size := ⟨_, rfl⟩
 have HH : Hd (H = w.heap.size) := hH
 have hb1 : wa.heap[H]? = some (.cells #[.slice a1 n c1, .slice a2 n c2] 33) := by
  rw [hwa, hH]; exact keepA (heap_new0 w _) _
 have hb2 : wa.heap[H + 1]? = some (.cells #[.slice a3 n c3, .slice a4 n c4] 33) := by
  rw [hwa, hH]
  have := heap_new0 (w.alloc (.cells #[.slice a1 n c1, .slice a2 n c2] 33)) (.cells #[.slice a3 n c3, .slice a4 n c4] 33)
  rw [World.size_alloc] at this
  exact this
 have HFA : Hd (Fr (fun _ => False) w wa) := by unfold Hd; rw [hwa]; exact Fr.alloc (Fr.alloc (Fr.refl _ w) _) _
 have HS : Hd (∀ wx, Fr (fun _ => False) wa wx → wx.cell? ⟨H, 0, none⟩ = some (.slice a1 n c1) ∧ wx.cell? ⟨H, 1, none⟩ = some (.slice a2 n c2) ∧ wx.cell? ⟨H + 1, 0, none⟩ = some (.slice a3 n c3) ∧ wx.cell? ⟨H + 1, 1, none⟩ = some (.slice a4 n c4)) := fun wx hx => by
  have h1 := (hx.block H (heap_lt0 hb1) (fun e => e)).trans hb1
  have h2 := (hx.block (H + 1) (heap_lt0 hb2) (fun e => e)).trans hb2
  exact ⟨by rw [cell_of0 h1]; rfl, by rw [cell_of0 h1]; rfl, by rw [cell_of0 h2]; rfl, by rw [cell_of0 h2]; rfl⟩
 obtain ⟨q1, q2, q3, q4⟩ := HS.out wa (Fr.refl _ wa)
 have dn : ((n : Int) != (n : Int)) = false := by simp
 clear hwa hH hb1 hb2 g1 g2 g3 g4 h1 h2 h3 h4 hL hn n2 n3 n4
 go_enter Tryz.func14, Tryz.ntmps14
 go_upto_region 1 with fail
 rw [← HWA.out, ← HH.out]
 clear HWA
 go_wp2_with fail
 clear q1 q2 q3 q4
 go_loopw [5] (fun v wr => ∃ (k : Nat), v = .int .i64 k ∧ k ≤ n ∧ Hd (Fr (fun _ => False) wa wr)) (fun v _ => match v with | .int _ q => n - q.toNat | _ => 0)
 case atStart => exact ⟨0, rfl, Nat.zero_le _, Fr.refl _ _⟩
 case round =>
  obtain ⟨k, rfl, hk, HF⟩ := hrel
  obtain ⟨q1, q2, q3, q4⟩ := HS.out wr HF.out
  by_cases hlt : k < n
  ·obtain ⟨l1, l2, l3, l4⟩ := HL.out k hlt
   have HFw : Hd (Fr (fun _ => False) w wr) := HFA.out.trans HF.out
   obtain ⟨k1, o1, rfl, kl1, p1⟩ := G1.out k hlt
   obtain ⟨k2, o2, u2, rfl, kl2, p2, i2⟩ := G2.out k hlt
   obtain ⟨k3, o3, rfl, kl3, p3⟩ := G3.out k hlt
   obtain ⟨k4, o4, u4, rfl, kl4, p4, i4⟩ := G4.out k hlt
   have p1 := (HFw.out.cell kl1 (fun e => e)).trans p1
   have P2 : Hd (∀ wx, Fr (fun _ => False) w wx → wx.cell? ⟨k2, o2 + k, none⟩ = some u2) := fun wx hx => (hx.cell kl2 (fun e => e)).trans p2
   have p3 := (HFw.out.cell kl3 (fun e => e)).trans p3
   have P4 : Hd (∀ wx, Fr (fun _ => False) w wx → wx.cell? ⟨k4, o4 + k, none⟩ = some u4) := fun wx hx => (hx.cell kl4 (fun e => e)).trans p4
   obtain ⟨m, hm⟩ : ∃ m, (s.R.getD k []).length = m := ⟨_, rfl⟩
   rw [hm] at l2 l3 l4
   obtain ⟨b2, d2, rfl, m2⟩ := i2.at hm
   obtain ⟨b4, d4, rfl, m4⟩ := i4.at l2.symm
   have M2 : Hd (∀ i, i < m → ∃ k_1 o, b2 = some ⟨k_1, o, none⟩ ∧ k_1 < w.heap.size ∧ w.cell? ⟨k_1, o + i, none⟩ = some (vI ((s.R.getD k []).getD i 0))) := m2
   have M4 : Hd (∀ i, i < m → ∃ k_1 o, b4 = some ⟨k_1, o, none⟩ ∧ k_1 < w.heap.size ∧ w.cell? ⟨k_1, o + i, none⟩ = some (vI ((t.R.getD k []).getD i 0))) := m4
   have L4 : Hd (∀ j, j < m → (s.R.getD k []).getD j 0 ≤ (t.R.getD k []).getD j 0) := l4
   have p2' := P2.out wr HFw.out
   have p4' := P4.out wr HFw.out
   generalize s.H.getD k 0 = z1 at *
   generalize t.H.getD k 0 = z3 at *
   generalize s.R.getD k [] = la at *
   generalize t.R.getD k [] = lb at *
   have dz : decide (z1 > z3) = false := by simp; omega
   have dm : ((m : Int) != (m : Int)) = false := by simp
   have hk0 : (0 : Int) ≤ k := by omega
   have hk1 : (k : Int) < n := by omega
   clear m2 m4 l4 l1 l2 hm p2 p4 i2 i4
   go_upto_region 6 with fail
   go_quiet (fail)
   go_wp2_with fail
   clear p1 p3 p2' p4' q1 q2 q3 q4
   go_loopw [6] (fun v wr => ∃ (j : Nat), v = .int .i64 j ∧ j ≤ m ∧ Hd (Fr (fun _ => False) wa wr)) (fun v _ => match v with | .int _ q => m - q.toNat | _ => 0)
   case atStart => exact ⟨0, rfl, Nat.zero_le _, HF.out.drewN _⟩
   case round =>
    clear HF HFw
    obtain ⟨j, rfl, hj, HF⟩ := hrel
    obtain ⟨q1, q2, q3, q4⟩ := HS.out wr HF.out
    have HFw : Hd (Fr (fun _ => False) w wr) := HFA.out.trans HF.out
    have p2 := P2.out wr HFw.out
    have p4 := P4.out wr HFw.out
    by_cases hltj : j < m
    ·have l4 := L4.out j hltj
     obtain ⟨j2, r2, rfl, jl2, t2⟩ := M2.out j hltj
     obtain ⟨j4, r4, rfl, jl4, t4⟩ := M4.out j hltj
     have t2 := (HFw.out.cell jl2 (fun e => e)).trans t2
     have t4 := (HFw.out.cell jl4 (fun e => e)).trans t4
     generalize la.getD j 0 = y1 at *
     generalize lb.getD j 0 = y3 at *
     have dy : decide (y1 > y3) = false := by simp; omega
     have hj0 : (0 : Int) ≤ j := by omega
     have hj1 : (j : Int) < m := by omega
     go_upto_region 11 with fail
     go_quiet (fail)
     go_wp2_with fail
     exact ⟨⟨j + 1, by simp, by omega, HF.out.drewN _⟩, by simp; omega⟩
    ·have hjm : j = m := by omega
     have dj : decide ((j : Int) < m) = false := by simp; omega
     clear hjm
     go_wp2_with fail
     exact ⟨⟨k + 1, by simp, by omega, HF.out⟩, by simp; omega⟩
  ·have dk : decide ((k : Int) < n) = false := by simp; omega
   go_wp2_with fail
   go_ret
   exact ⟨rfl, HFA.out.trans HF.out⟩
end Go.Proofs.YtdkijecnnmncnaaGreatDoor
namespace Go.Proofs.YtdkijecnnmncnaaGreatDoor
open Go.RowKit (wrap32 wrap64)
set_option linter.unusedVariables false
set_option linter.unusedSimpArgs false
set_option maxRecDepth 100000
set_option maxHeartbeats 4000000
theorem plain_any (d : Int) (w : World) : Calls Tryz.prog 82 #[vI d] w fun e w' => e = .returned (.bool (derOk d)) ∧ w' = w := by
 go_enter Tryz.func82, Tryz.ntmps82
 by_cases h9 : d = 9
 ·have e1 : (d == 9) = true := by simp [h9]
  have HD : Hd (derOk d = true) := by unfold Hd derOk; simp [h9]
  have f1 : decide (d ≥ 0) = true := by simp; omega
  have f2 : decide (0 ≤ d) = true := by simp; omega
  have f3 : decide (d ≤ 3) = false := by simp; omega
  clear h9
  go_wp2_with fail
  go_ret
  exact ⟨by rw [HD.out]; rfl, rfl⟩
 ·have e1 : (d == 9) = false := by simp [h9]
  by_cases h0 : 0 ≤ d
  ·have f1 : decide (d ≥ 0) = true := by simp; omega
   have f2 : decide (0 ≤ d) = true := by simp; omega
   by_cases h3 : d ≤ 3
   ·have f3 : decide (d ≤ 3) = true := by simp; omega
    have HD : Hd (derOk d = true) := by unfold Hd derOk; simp [h0, h3]
    go_wp2_with fail
    go_ret
    exact ⟨by rw [HD.out]; rfl, rfl⟩
   ·have f3 : decide (d ≤ 3) = false := by simp; omega
    have HD : Hd (derOk d = false) := by unfold Hd derOk; simp [h9]; omega
    go_wp2_with fail
    go_ret
    exact ⟨by rw [HD.out]; rfl, rfl⟩
  ·have f1 : decide (d ≥ 0) = false := by simp; omega
   have f2 : decide (0 ≤ d) = false := by simp; omega
   have HD : Hd (derOk d = false) := by unfold Hd derOk; simp [h9]; omega
   go_wp2_with fail
   go_ret
   exact ⟨by rw [HD.out]; rfl, rfl⟩
theorem shaped_any (hv rv : Value) (s : PS) (P R V : Int) (ca : Option Addr) (cn cc : Nat) (w : World) (h1 : IA w hv s.H) (h2 : LA w rv s.R) (b1 : s.H.length ≤ 17592186043904) (b2 : s.R.length ≤ 17592186043904) (b3 : ∀ l ∈ s.R, l.length ≤ 17592186043904) :
 Calls Tryz.prog 42 #[.agg #[vI P, vI R, vI V, .slice ca cn cc], .agg #[hv, rv]] w fun e w' => e = .returned (.bool (fitsX s P R)) ∧ Fr (fun _ => False) w w' := by
 obtain ⟨W, hW⟩ : ∃ W, W = (w.alloc (.cells #[vI P, vI R, vI V, .slice ca cn cc] 45)).alloc (.cells #[hv, rv] 33) := ⟨_, rfl⟩
 have HW : Hd (W = (w.alloc (.cells #[vI P, vI R, vI V, .slice ca cn cc] 45)).alloc (.cells #[hv, rv] 33)) := hW
 have hF : Fr (fun _ => False) w W := by rw [hW]; exact Fr.alloc (Fr.alloc (Fr.refl _ w) _) _
 have k1 : W.heap[w.heap.size]? = some (.cells #[vI P, vI R, vI V, .slice ca cn cc] 45) := by
  rw [hW, Go.RowKit.Below.heap_alloc _ _ _ (by simp)]; exact heap_new w _
 have k2 : W.heap[w.heap.size + 1]? = some (.cells #[hv, rv] 33) := by
  have := heap_new (w.alloc (.cells #[vI P, vI R, vI V, .slice ca cn cc] 45)) (.cells #[hv, rv] 33)
  rw [World.size_alloc] at this
  rw [hW]; exact this
 obtain ⟨X, hX⟩ : ∃ X, X = w.heap.size := ⟨_, rfl⟩
 have HX : Hd (X = w.heap.size) := hX
 rw [← hX] at k1 k2
 have H1 : Hd (IA W hv s.H) := h1.stay hF
 have H2 : Hd (LA W rv s.R) := h2.stay hF
 have HF : Hd (Fr (fun _ => False) w W) := hF
 have HB3 : Hd (∀ l ∈ s.R, l.length ≤ 17592186043904) := b3
 obtain ⟨ha, hc, ehv, -⟩ := h1
 obtain ⟨la, lc, erv, -⟩ := h2
 subst ehv erv
 have HC : Hd (∀ wr, Fr (fun _ => False) W wr → wr.cell? ⟨X, 0, none⟩ = some (vI P) ∧ wr.cell? ⟨X, 1, none⟩ = some (vI R) ∧ wr.cell? ⟨X + 1, 0, none⟩ = some (.slice ha s.H.length hc) ∧ wr.cell? ⟨X + 1, 1, none⟩ = some (.slice la s.R.length lc)) := fun wr f => by
  have e1 := (f.block _ (heap_lt k1) (fun h => h)).trans k1
  have e2 := (f.block _ (heap_lt k2) (fun h => h)).trans k2
  exact ⟨by rw [cell_of e1]; rfl, by rw [cell_of e1]; rfl, by rw [cell_of e2]; rfl, by rw [cell_of e2]; rfl⟩
 clear hW hF k1 k2 hX b3
 obtain ⟨c0, c1, d0, d1⟩ := HC.out W (Fr.refl _ _)
 go_enter Tryz.func42, Tryz.ntmps42
 go_upto_region 1 with fail
 rw [← HW.out, ← HX.out]
 clear HW HX
 by_cases hn : (s.H.length : Int) = P
 ·have hd1 : ((s.H.length : Int) != P) = false := by simp [hn]
  by_cases hm : (s.R.length : Int) = P
  ·have hd2 : ((s.R.length : Int) != P) = false := by simp [hm]
   have HFX : Hd (fitsX s P R = (s.H.all derOk && s.R.all (fun l => dersX l R))) := by unfold Hd fitsX dersX; rw [decide_eq_true hm, decide_eq_true hn]; rfl
   obtain ⟨n, en⟩ : ∃ n, n = s.H.length := ⟨_, rfl⟩
   have en2 : s.R.length = n := by omega
   have HC : Hd (∀ wr, Fr (fun _ => False) W wr → wr.cell? ⟨X, 0, none⟩ = some (vI P) ∧ wr.cell? ⟨X, 1, none⟩ = some (vI R) ∧ wr.cell? ⟨X + 1, 0, none⟩ = some (.slice ha n hc) ∧ wr.cell? ⟨X + 1, 1, none⟩ = some (.slice la n lc)) := by
    have h9 := HC.out
    rw [← en, en2] at h9
    exact h9
   have H1 : Hd (IA W (.slice ha n hc) s.H) := by rw [← en] at H1; exact H1
   have H2 : Hd (LA W (.slice la n lc) s.R) := by rw [en2] at H2; exact H2
   rw [← en] at d0 hd1
   rw [en2] at d1 hd2
   have HN : Hd (n = s.H.length ∧ n = s.R.length ∧ (n : Int) = P) := ⟨en, by omega, by omega⟩
   have eP : P = (n : Int) := by omega
   subst eP
   clear hn hm en en2
   go_wp2_with fail
   clear hd1 hd2 c0 c1 d0 d1
   go_loopw [5] (fun v wr => ∃ (k : Nat), v = .int .i64 k ∧ k ≤ n ∧ Hd (Fr (fun _ => False) W wr) ∧ Hd ((s.H.take k).all derOk = true ∧ (s.R.take k).all (fun l => dersX l R) = true)) (fun v _ => match v with | .int _ q => n - q.toNat | _ => 0)
   case atStart => exact ⟨0, rfl, by omega, Fr.refl _ _, ⟨rfl, rfl⟩⟩
   case round =>
    obtain ⟨k, rfl, hk, HFr, HA⟩ := hrel
    obtain ⟨c0, c1, d0, d1⟩ := HC.out wr HFr.out
    by_cases hlt : k < n
    ·have hkH : k < s.H.length := by have := HN.out; omega
     have hkR : k < s.R.length := by have := HN.out; omega
     obtain ⟨a', c', e', hhs⟩ := H1.out
     injection e' with e1 e2 e3
     subst e1 e3
     clear e2
     obtain ⟨hg, ho, rfl, hhg, hhs⟩ := hhs (by intro e; rw [e] at hkH; simp at hkH)
     obtain ⟨a', c', e', hls⟩ := H2.out
     injection e' with e1 e2 e3
     subst e1 e3
     clear e2
     obtain ⟨lg, lo, rfl, hlg, hls⟩ := hls (by intro e; rw [e] at hkR; simp at hkR)
     obtain ⟨x, hx1, hx2⟩ := hls k hkR
     have q0 := (HFr.out.cell hhg (fun h => h)).trans (hhs k hkH)
     have q1 := (HFr.out.cell hlg (fun h => h)).trans hx1
     have HIX : Hd (IA W x s.R[k]) := hx2
     have HX1 : Hd (W.cell? ⟨lg, lo + k, none⟩ = some x ∧ lg < W.heap.size) := ⟨hx1, hlg⟩
     have hll := HB3.out s.R[k] (List.getElem_mem hkR)
     have HS1 := all_take_succ s.H derOk k hkH
     have HS2 := all_take_succ s.R (fun l => dersX l R) k hkR
     have HB1 : Hd (derOk s.H[k] = false → fitsX s n R = false) := fun e => by rw [HFX.out, all_bad hkH e]; rfl
     have HB2 : Hd (dersX s.R[k] R = false → fitsX s n R = false) := fun e => by rw [HFX.out, all_bad (p := fun l => dersX l R) hkR e]; simp
     obtain ⟨xa, xc, ex, -⟩ := hx2
     have hk0 : (0 : Int) ≤ k := by omega
     have hk3 : (k : Int) < n := by omega
     clear hhs hls hx1
     generalize s.H[k] = d at *
     generalize s.R[k] = l at *
     subst ex
     go_upto_region 6 with fail
     cases hb : derOk d with
     | false =>
       have HWT : Hd (∀ w', Calls Tryz.prog 82 #[vI d] w' fun e w2 => e = .returned (.bool false) ∧ w2 = w') := fun w' => by have := plain_any d w'; rw [hb] at this; exact this
       have HR := HB1.out hb
       have HR : Hd (fitsX s n R = false) := HR
       clear HS1 HS2 HB1 HB2 hb
       go_quiet ((go_at_call 82; refine Calls.quiet_of_same (HWT.out _)))
       all_goals
        go_wp2_with fail
        go_ret
        exact ⟨by rw [HR.out]; rfl, HF.out.trans ⟨HFr.out.os, HFr.out.tape, HFr.out.output, HFr.out.size, HFr.out.block⟩⟩
     | true =>
       have HWT : Hd (∀ w', Calls Tryz.prog 82 #[vI d] w' fun e w2 => e = .returned (.bool true) ∧ w2 = w') := fun w' => by have := plain_any d w'; rw [hb] at this; exact this
       have HS1' : Hd ((s.H.take (k + 1)).all derOk = true) := by unfold Hd; rw [HS1, HA.out.1, hb]; rfl
       clear HS1 HB1 hb
       by_cases hlR : (l.length : Int) = R
       ·have f1 : ((l.length : Int) != R) = false := by simp [hlR]
        obtain ⟨m, em⟩ : ∃ m, m = l.length := ⟨_, rfl⟩
        have HM : Hd (m = l.length ∧ (m : Int) = R) := ⟨em, by omega⟩
        have eR : R = (m : Int) := by omega
        subst eR
        rw [← em] at q1 hll f1
        have HX1 : Hd (W.cell? ⟨lg, lo + k, none⟩ = some (.slice xa m xc) ∧ lg < W.heap.size) := by rw [← em] at HX1; exact HX1
        have HIX : Hd (IA W (.slice xa m xc) l) := by rw [← em] at HIX; exact HIX
        have HDX : Hd (dersX l (m : Int) = l.all derOk) := by unfold Hd dersX; rw [decide_eq_true (by rw [HM.out.1])]; rfl
        clear em hlR
        go_quiet ((go_at_call 82; refine Calls.quiet_of_same (HWT.out _)))
        go_wp2_with fail
        clear f1 c0 c1 d0 d1 q0 q1
        go_loopw [6] (fun v wq => ∃ (j : Nat), v = .int .i64 j ∧ j ≤ m ∧ Hd (Fr (fun _ => False) W wq) ∧ Hd ((l.take j).all derOk = true)) (fun v _ => match v with | .int _ q => m - q.toNat | _ => 0)
        case atStart => exact ⟨0, rfl, by omega, ⟨HFr.out.os, HFr.out.tape, HFr.out.output, HFr.out.size, HFr.out.block⟩, rfl⟩
        case round =>
         obtain ⟨j, rfl, hj, HFq, HAj⟩ := hrel
         obtain ⟨c0, c1, d0, d1⟩ := HC.out wr HFq.out
         have q1 := (HFq.out.cell HX1.out.2 (fun h => h)).trans HX1.out.1
         by_cases hjm : j < m
         ·have hjl : j < l.length := by have := HM.out.1; omega
          obtain ⟨a', c', e', hxs⟩ := HIX.out
          injection e' with e1 e2 e3
          subst e1 e3
          clear e2
          obtain ⟨xg, xo, rfl, hxg, hxs⟩ := hxs (by intro e; rw [e] at hjl; simp at hjl)
          have q2 := (HFq.out.cell hxg (fun h => h)).trans (hxs j hjl)
          have HT1 := all_take_succ l derOk j hjl
          have HT2 : Hd (derOk l[j] = false → l.all derOk = false) := fun e => all_bad hjl e
          have hj0 : (0 : Int) ≤ j := by omega
          have hj2 : (j : Int) < m := by omega
          clear hxs
          generalize l[j] = d2 at *
          cases hb2 : derOk d2 with
          | false =>
            have HW2 : Hd (∀ w', Calls Tryz.prog 82 #[vI d2] w' fun e w2 => e = .returned (.bool false) ∧ w2 = w') := fun w' => by have := plain_any d2 w'; rw [hb2] at this; exact this
            have HR := HB2.out (by rw [HDX.out]; exact HT2.out hb2)
            have HR : Hd (fitsX s n (m : Int) = false) := HR
            clear HT1 HT2 hb2 HS2 HB2
            go_wp2_with fail
            refine (HW2.out _).mono ?_
            rintro _ wx ⟨rfl, rfl⟩
            go_wp2_with fail
            go_ret
            exact ⟨by rw [HR.out]; rfl, HF.out.trans HFq.out⟩
          | true =>
            have HW2 : Hd (∀ w', Calls Tryz.prog 82 #[vI d2] w' fun e w2 => e = .returned (.bool true) ∧ w2 = w') := fun w' => by have := plain_any d2 w'; rw [hb2] at this; exact this
            have HT3 : Hd ((l.take (j + 1)).all derOk = true) := by unfold Hd; rw [HT1, HAj.out, hb2]; rfl
            clear HT1 HT2 hb2 HS2 HB2
            go_wp2_with fail
            refine (HW2.out _).mono ?_
            rintro _ wx ⟨rfl, rfl⟩
            go_wp2_with fail
            exact ⟨⟨j + 1, castW j, hjm, HFq, HT3⟩, measW hjm⟩
         ·have hdj : decide ((j : Int) < m) = false := by simp; omega
          have HL : Hd (l.all derOk = true) := by
           have h := HAj.out
           rw [List.take_of_length_le (by have := HM.out.1; omega)] at h
           exact h
          have HS3 : Hd ((s.R.take (k + 1)).all (fun l => dersX l (m : Int)) = true) := by unfold Hd; rw [HS2, HA.out.2, HDX.out, HL.out]; rfl
          clear HS2 HB2
          go_wp2_with fail
          exact ⟨⟨k + 1, castW k, hlt, HFq, ⟨HS1'.out, HS3.out⟩⟩, measW hlt⟩
       ·have f1 : ((l.length : Int) != R) = true := by simp [hlR]
        have HR := HB2.out (by unfold dersX; rw [decide_eq_false hlR]; rfl)
        have HR : Hd (fitsX s n R = false) := HR
        clear HS2 HB2
        go_quiet ((go_at_call 82; refine Calls.quiet_of_same (HWT.out _)))
        all_goals
         go_wp2_with fail
         go_ret
         exact ⟨by rw [HR.out]; rfl, HF.out.trans ⟨HFr.out.os, HFr.out.tape, HFr.out.output, HFr.out.size, HFr.out.block⟩⟩
    ·have hdk : decide ((k : Int) < n) = false := by simp; omega
     have HH : Hd (s.H.all derOk = true ∧ s.R.all (fun l => dersX l R) = true) := by
      have h := HA.out
      rw [List.take_of_length_le (by have := HN.out; omega), List.take_of_length_le (by have := HN.out; omega)] at h
      exact h
     go_wp2_with fail
     go_ret
     exact ⟨by rw [HFX.out, HH.out.1, HH.out.2]; rfl, HF.out.trans HFr.out⟩
  ·have hd2 : ((s.R.length : Int) != P) = true := by simp [hm]
   have HFX : Hd (fitsX s P R = false) := by unfold Hd fitsX; rw [decide_eq_false hm]; rfl
   go_wp2_with fail
   go_ret
   exact ⟨by rw [HFX.out]; rfl, HF.out⟩
 ·have hd1 : ((s.H.length : Int) != P) = true := by simp [hn]
  have HFX : Hd (fitsX s P R = false) := by unfold Hd fitsX dersX; rw [decide_eq_false hn]; simp
  go_wp2_with fail
  go_ret
  exact ⟨by rw [HFX.out]; rfl, HF.out⟩
end Go.Proofs.YtdkijecnnmncnaaGreatDoor
