import Derived.Test.YtlmlmhinbkcpoaaDoorQEbJ
import Derived.Deep.RegionHeld3
import Derived.BigQuiet
import Derived.StillTail
import Derived.StillTailTactics
import Derived.Test.YtlmlmhinbkcpoaaDoorQEpJ
import Derived.Test.YtlmlmhinbkcpoaaDoorQExJ
import Derived.Deep.DeepCutAuto
namespace Go.Proofs.YtlmlmhinbkcpoaaDoor
open Go.RowKit (wrap32 wrap64)
set_option linter.unusedVariables false
set_option linter.unusedSimpArgs false

set_option maxRecDepth 100000 in
set_option maxHeartbeats 1000000 in
theorem weight_any (d : Int) (w : World) : Calls Tryd.prog 49 #[vI d] w fun e w' => e = .returned (.bool (derOk d)) ∧ w' = w := by
  go_enter Tryd.func49, Tryd.ntmps49
  by_cases h9 : d = 9
  · have e1 : (d == 9) = true := by simp [h9]
    have HD : Hd (derOk d = true) := by unfold Hd derOk; simp [h9]
    have f1 : decide (d ≥ 0) = true := by simp; omega
    have f2 : decide (0 ≤ d) = true := by simp; omega
    have f3 : decide (d ≤ 3) = false := by simp; omega
    clear h9
    go_wp2_with fail
    go_ret
    exact ⟨by rw [HD.out]; rfl, rfl⟩
  · have e1 : (d == 9) = false := by simp [h9]
    by_cases h0 : 0 ≤ d
    · have f1 : decide (d ≥ 0) = true := by simp; omega
      have f2 : decide (0 ≤ d) = true := by simp; omega
      by_cases h3 : d ≤ 3
      · have f3 : decide (d ≤ 3) = true := by simp; omega
        have HD : Hd (derOk d = true) := by unfold Hd derOk; simp [h0, h3]
        go_wp2_with fail
        go_ret
        exact ⟨by rw [HD.out]; rfl, rfl⟩
      · have f3 : decide (d ≤ 3) = false := by simp; omega
        have HD : Hd (derOk d = false) := by unfold Hd derOk; simp [h9]; omega
        go_wp2_with fail
        go_ret
        exact ⟨by rw [HD.out]; rfl, rfl⟩
    · have f1 : decide (d ≥ 0) = false := by simp; omega
      have f2 : decide (0 ≤ d) = false := by simp; omega
      have HD : Hd (derOk d = false) := by unfold Hd derOk; simp [h9]; omega
      go_wp2_with fail
      go_ret
      exact ⟨by rw [HD.out]; rfl, rfl⟩

theorem measW {i n : Nat} (h : i < n) : n - ((i : Int) + 1).toNat < n - (i : Int).toNat := by omega
theorem castW (i : Nat) : Value.int .i64 ((i : Int) + 1) = Value.int .i64 ((i + 1 : Nat) : Int) := by simp

set_option maxRecDepth 100000 in
set_option maxHeartbeats 4000000 in
/-- The document's Right. -/
theorem rright_any (hv rv : Value) (s : PS) (P R V : Int) (ca : Option Addr) (cn cc : Nat) (w : World) (h1 : IA w hv s.H) (h2 : LA w rv s.R) (b1 : s.H.length ≤ 17592186043904) (b2 : s.R.length ≤ 17592186043904) (b3 : ∀ l ∈ s.R, l.length ≤ 17592186043904) :
    Calls Tryd.prog 36 #[.agg #[vI P, vI R, vI V, .slice ca cn cc], .agg #[hv, rv]] w fun e w' => e = .returned (.bool (fitsX s P R)) ∧ Fr (fun _ => False) w w' := by
  obtain ⟨W, hW⟩ : ∃ W, W = (w.alloc (.cells #[vI P, vI R, vI V, .slice ca cn cc] 30)).alloc (.cells #[hv, rv] 34) := ⟨_, rfl⟩
  have HW : Hd (W = (w.alloc (.cells #[vI P, vI R, vI V, .slice ca cn cc] 30)).alloc (.cells #[hv, rv] 34)) := hW
  have hF : Fr (fun _ => False) w W := by rw [hW]; exact Fr.alloc (Fr.alloc (Fr.refl _ w) _) _
  have k1 : W.heap[w.heap.size]? = some (.cells #[vI P, vI R, vI V, .slice ca cn cc] 30) := by
    rw [hW, Go.RowKit.Below.heap_alloc _ _ _ (by simp)]; exact heap_new w _
  have k2 : W.heap[w.heap.size + 1]? = some (.cells #[hv, rv] 34) := by
    have := heap_new (w.alloc (.cells #[vI P, vI R, vI V, .slice ca cn cc] 30)) (.cells #[hv, rv] 34)
    rw [World.size_alloc] at this
    rw [hW]; exact this
  obtain ⟨X, hX⟩ : ∃ X, X = w.heap.size := ⟨_, rfl⟩
  have HX : Hd (X = w.heap.size) := hX
  rw [← hX] at k1 k2
  have H1 : Hd (IA W hv s.H) := h1.stay hF
  have H2 : Hd (LA W rv s.R) := h2.stay hF
  have HF : Hd (Fr (fun _ => False) w W) := hF
  have HB3 : Hd (∀ l ∈ s.R, l.length ≤ 17592186043904) := b3
  obtain ⟨ha, hc, ehv, -⟩ := h1
  obtain ⟨la, lc, erv, -⟩ := h2
  subst ehv erv
  have HC : Hd (∀ wr, Fr (fun _ => False) W wr → wr.cell? ⟨X, 0, none⟩ = some (vI P) ∧ wr.cell? ⟨X, 1, none⟩ = some (vI R) ∧ wr.cell? ⟨X + 1, 0, none⟩ = some (.slice ha s.H.length hc) ∧ wr.cell? ⟨X + 1, 1, none⟩ = some (.slice la s.R.length lc)) := fun wr f => by
    have e1 := (f.block _ (heap_lt k1) (fun h => h)).trans k1
    have e2 := (f.block _ (heap_lt k2) (fun h => h)).trans k2
    exact ⟨by rw [cell_of e1]; rfl, by rw [cell_of e1]; rfl, by rw [cell_of e2]; rfl, by rw [cell_of e2]; rfl⟩
  clear hW hF k1 k2 hX b3
  obtain ⟨c0, c1, d0, d1⟩ := HC.out W (Fr.refl _ _)
  go_enter Tryd.func36, Tryd.ntmps36
  go_upto_region 1 with fail
  rw [← HW.out, ← HX.out]
  clear HW HX
  by_cases hn : (s.H.length : Int) = P
  · have hd1 : ((s.H.length : Int) != P) = false := by simp [hn]
    by_cases hm : (s.R.length : Int) = P
    · have hd2 : ((s.R.length : Int) != P) = false := by simp [hm]
      have HFX : Hd (fitsX s P R = (s.H.all derOk && s.R.all (fun l => dersX l R))) := by unfold Hd fitsX dersX; rw [decide_eq_true hm, decide_eq_true hn]; rfl
      obtain ⟨n, en⟩ : ∃ n, n = s.H.length := ⟨_, rfl⟩
      have HN : Hd (n = s.H.length ∧ n = s.R.length ∧ (n : Int) = P) := ⟨en, by omega, by omega⟩
      have eP : P = (n : Int) := by omega
      subst eP
      clear hn hm en
      go_wp2_with fail
      clear hd1 hd2 c0 c1 d0 d1
      go_loopw [5] (fun v wr => ∃ (k : Nat), v = .int .i64 k ∧ k ≤ n ∧ Hd (Fr (fun _ => False) W wr) ∧ Hd ((s.H.take k).all derOk = true ∧ (s.R.take k).all (fun l => dersX l R) = true)) (fun v _ => match v with | .int _ q => n - q.toNat | _ => 0)
      case atStart => exact ⟨0, rfl, by omega, Fr.refl _ _, ⟨rfl, rfl⟩⟩
      case round =>
        obtain ⟨k, rfl, hk, HFr, HA⟩ := hrel
        obtain ⟨c0, c1, d0, d1⟩ := HC.out wr HFr.out
        by_cases hlt : k < n
        · have hkH : k < s.H.length := by have := HN.out; omega
          have hkR : k < s.R.length := by have := HN.out; omega
          obtain ⟨a', c', e', hhs⟩ := H1.out
          cases e'
          obtain ⟨hg, ho, rfl, hhg, hhs⟩ := hhs (by intro e; rw [e] at hkH; simp at hkH)
          obtain ⟨a', c', e', hls⟩ := H2.out
          cases e'
          obtain ⟨lg, lo, rfl, hlg, hls⟩ := hls (by intro e; rw [e] at hkR; simp at hkR)
          obtain ⟨x, hx1, hx2⟩ := hls k hkR
          have q0 := (HFr.out.cell hhg (fun h => h)).trans (hhs k hkH)
          have q1 := (HFr.out.cell hlg (fun h => h)).trans hx1
          have HIX : Hd (IA W x s.R[k]) := hx2
          have HX1 : Hd (W.cell? ⟨lg, lo + k, none⟩ = some x ∧ lg < W.heap.size) := ⟨hx1, hlg⟩
          have hll := HB3.out s.R[k] (List.getElem_mem hkR)
          have HS1 := all_take_succ s.H derOk k hkH
          have HS2 := all_take_succ s.R (fun l => dersX l R) k hkR
          have HB1 : Hd (derOk s.H[k] = false → fitsX s n R = false) := fun e => by rw [HFX.out, all_bad hkH e]; rfl
          have HB2 : Hd (dersX s.R[k] R = false → fitsX s n R = false) := fun e => by rw [HFX.out, all_bad (p := fun l => dersX l R) hkR e]; simp
          obtain ⟨xa, xc, ex, -⟩ := hx2
          have hk0 : (0 : Int) ≤ k := by omega
          have hk1 : (k : Int) < s.H.length := by omega
          have hk2 : (k : Int) < s.R.length := by omega
          have hk3 : (k : Int) < n := by omega
          clear hhs hls hx1
          generalize s.H[k] = d at *
          generalize s.R[k] = l at *
          subst ex
          go_upto_region 6 with fail
          cases hb : derOk d with
          | false =>
            have HWT : Hd (∀ w', Calls Tryd.prog 49 #[vI d] w' fun e w2 => e = .returned (.bool false) ∧ w2 = w') := fun w' => by have := weight_any d w'; rw [hb] at this; exact this
            have HR := HB1.out hb
            have HR : Hd (fitsX s n R = false) := HR
            clear HS1 HS2 HB1 HB2 hb
            go_quiet ((go_at_call 49; refine Calls.quiet_of_same (HWT.out _)))
            all_goals
              go_wp2_with fail
              go_ret
              exact ⟨by rw [HR.out]; rfl, HF.out.trans ⟨HFr.out.os, HFr.out.tape, HFr.out.output, HFr.out.size, HFr.out.block⟩⟩
          | true =>
            have HWT : Hd (∀ w', Calls Tryd.prog 49 #[vI d] w' fun e w2 => e = .returned (.bool true) ∧ w2 = w') := fun w' => by have := weight_any d w'; rw [hb] at this; exact this
            have HS1' : Hd ((s.H.take (k + 1)).all derOk = true) := by unfold Hd; rw [HS1, HA.out.1, hb]; rfl
            clear HS1 HB1 hb
            by_cases hlR : (l.length : Int) = R
            · have f1 : ((l.length : Int) != R) = false := by simp [hlR]
              obtain ⟨m, em⟩ : ∃ m, m = l.length := ⟨_, rfl⟩
              have HM : Hd (m = l.length ∧ (m : Int) = R) := ⟨em, by omega⟩
              have eR : R = (m : Int) := by omega
              subst eR
              have HDX : Hd (dersX l (m : Int) = l.all derOk) := by unfold Hd dersX; rw [decide_eq_true (by rw [HM.out.1])]; rfl
              clear em hlR
              go_quiet ((go_at_call 49; refine Calls.quiet_of_same (HWT.out _)))
              go_wp2_with fail
              clear f1 c0 c1 d0 d1 q0 q1
              go_loopw [6] (fun v wq => ∃ (j : Nat), v = .int .i64 j ∧ j ≤ m ∧ Hd (Fr (fun _ => False) W wq) ∧ Hd ((l.take j).all derOk = true)) (fun v _ => match v with | .int _ q => m - q.toNat | _ => 0)
              case atStart => exact ⟨0, rfl, by omega, ⟨HFr.out.os, HFr.out.tape, HFr.out.output, HFr.out.size, HFr.out.block⟩, rfl⟩
              case round =>
                obtain ⟨j, rfl, hj, HFq, HAj⟩ := hrel
                obtain ⟨c0, c1, d0, d1⟩ := HC.out wr HFq.out
                have q1 := (HFq.out.cell HX1.out.2 (fun h => h)).trans HX1.out.1
                by_cases hjm : j < m
                · have hjl : j < l.length := by have := HM.out.1; omega
                  obtain ⟨a', c', e', hxs⟩ := HIX.out
                  cases e'
                  obtain ⟨xg, xo, rfl, hxg, hxs⟩ := hxs (by intro e; rw [e] at hjl; simp at hjl)
                  have q2 := (HFq.out.cell hxg (fun h => h)).trans (hxs j hjl)
                  have HT1 := all_take_succ l derOk j hjl
                  have HT2 : Hd (derOk l[j] = false → l.all derOk = false) := fun e => all_bad hjl e
                  have hj0 : (0 : Int) ≤ j := by omega
                  have hj1 : (j : Int) < l.length := by omega
                  have hj2 : (j : Int) < m := by omega
                  clear hxs
                  generalize l[j] = d2 at *
                  cases hb2 : derOk d2 with
                  | false =>
                    have HW2 : Hd (∀ w', Calls Tryd.prog 49 #[vI d2] w' fun e w2 => e = .returned (.bool false) ∧ w2 = w') := fun w' => by have := weight_any d2 w'; rw [hb2] at this; exact this
                    have HR := HB2.out (by rw [HDX.out]; exact HT2.out hb2)
                    have HR : Hd (fitsX s n (m : Int) = false) := HR
                    clear HT1 HT2 hb2 HS2 HB2
                    go_wp2_with fail
                    refine (HW2.out _).mono ?_
                    rintro _ wx ⟨rfl, rfl⟩
                    go_wp2_with fail
                    go_ret
                    exact ⟨by rw [HR.out]; rfl, HF.out.trans HFq.out⟩
                  | true =>
                    have HW2 : Hd (∀ w', Calls Tryd.prog 49 #[vI d2] w' fun e w2 => e = .returned (.bool true) ∧ w2 = w') := fun w' => by have := weight_any d2 w'; rw [hb2] at this; exact this
                    have HT3 : Hd ((l.take (j + 1)).all derOk = true) := by unfold Hd; rw [HT1, HAj.out, hb2]; rfl
                    clear HT1 HT2 hb2 HS2 HB2
                    go_wp2_with fail
                    refine (HW2.out _).mono ?_
                    rintro _ wx ⟨rfl, rfl⟩
                    go_wp2_with fail
                    exact ⟨⟨j + 1, castW j, hjm, HFq, HT3⟩, measW hjm⟩
                · have hdj : decide ((j : Int) < m) = false := by simp; omega
                  have HL : Hd (l.all derOk = true) := by
                    have h := HAj.out
                    rw [List.take_of_length_le (by have := HM.out.1; omega)] at h
                    exact h
                  have HS3 : Hd ((s.R.take (k + 1)).all (fun l => dersX l (m : Int)) = true) := by unfold Hd; rw [HS2, HA.out.2, HDX.out, HL.out]; rfl
                  clear HS2 HB2
                  go_wp2_with fail
                  exact ⟨⟨k + 1, castW k, hlt, HFq, ⟨HS1'.out, HS3.out⟩⟩, measW hlt⟩
            · have f1 : ((l.length : Int) != R) = true := by simp [hlR]
              have HR := HB2.out (by unfold dersX; rw [decide_eq_false hlR]; rfl)
              have HR : Hd (fitsX s n R = false) := HR
              clear HS2 HB2
              go_quiet ((go_at_call 49; refine Calls.quiet_of_same (HWT.out _)))
              all_goals
                go_wp2_with fail
                go_ret
                exact ⟨by rw [HR.out]; rfl, HF.out.trans ⟨HFr.out.os, HFr.out.tape, HFr.out.output, HFr.out.size, HFr.out.block⟩⟩
        · have hdk : decide ((k : Int) < n) = false := by simp; omega
          have HH : Hd (s.H.all derOk = true ∧ s.R.all (fun l => dersX l R) = true) := by
            have h := HA.out
            rw [List.take_of_length_le (by have := HN.out; omega), List.take_of_length_le (by have := HN.out; omega)] at h
            exact h
          go_wp2_with fail
          go_ret
          exact ⟨by rw [HFX.out, HH.out.1, HH.out.2]; rfl, HF.out.trans HFr.out⟩
    · have hd2 : ((s.R.length : Int) != P) = true := by simp [hm]
      have HFX : Hd (fitsX s P R = false) := by unfold Hd fitsX; rw [decide_eq_false hm]; rfl
      go_wp2_with fail
      go_ret
      exact ⟨by rw [HFX.out]; rfl, HF.out⟩
  · have hd1 : ((s.H.length : Int) != P) = true := by simp [hn]
    have HFX : Hd (fitsX s P R = false) := by unfold Hd fitsX dersX; rw [decide_eq_false hn]; simp
    go_wp2_with fail
    go_ret
    exact ⟨by rw [HFX.out]; rfl, HF.out⟩
end Go.Proofs.YtlmlmhinbkcpoaaDoor

namespace Go.Proofs.YtlmlmhinbkcpoaaDoor
open Go.RowKit (wrap32 wrap64)
set_option linter.unusedVariables false
set_option linter.unusedSimpArgs false

def rgtI (fs : List PF) (ss : List PS) (j : Nat) : Bool := decide (0 ≤ (fs.getD j ⟨0, 0, 0, []⟩).P) && (decide (0 ≤ (fs.getD j ⟨0, 0, 0, []⟩).R) && fitsX (ss.getD j ⟨[], []⟩) (fs.getD j ⟨0, 0, 0, []⟩).P (fs.getD j ⟨0, 0, 0, []⟩).R)
def rgtX (fs : List PF) (ss : List PS) : Bool := decide (ss.length = fs.length) && (List.range ss.length).all (rgtI fs ss)
theorem rng_succ (p : Nat → Bool) (k : Nat) : (List.range (k + 1)).all p = ((List.range k).all p && p k) := by
  rw [List.range_succ, List.all_append]
  simp
theorem rng_bad {p : Nat → Bool} {k n : Nat} (h : k < n) (hp : p k = false) : (List.range n).all p = false := by
  apply List.all_eq_false.2
  exact ⟨k, List.mem_range.2 h, by simp [hp]⟩

set_option maxRecDepth 100000 in
set_option maxHeartbeats 4000000 in
theorem lright_any (G : Int) (fv sv : Value) (fs : List PF) (ss : List PS) (w : World) (h1 : FA w fv fs) (h2 : SsA w sv ss) (b1 : FineP fs) (b2 : FineS ss) :
    Calls Tryd.prog 16 #[.agg #[vI G, fv], sv] w fun e w' => e = .returned (.bool (rgtX fs ss)) ∧ Fr (fun _ => False) w w' := by
  obtain ⟨W, hW⟩ : ∃ W, W = w.alloc (.cells #[vI G, fv] 24) := ⟨_, rfl⟩
  have HW : Hd (W = w.alloc (.cells #[vI G, fv] 24)) := hW
  have hF : Fr (fun _ => False) w W := by rw [hW]; exact Fr.alloc (Fr.refl _ w) _
  have k1 : W.heap[w.heap.size]? = some (.cells #[vI G, fv] 24) := by rw [hW]; exact heap_new w _
  obtain ⟨X, hX⟩ : ∃ X, X = w.heap.size := ⟨_, rfl⟩
  have HX : Hd (X = w.heap.size) := hX
  rw [← hX] at k1
  have H1 : Hd (FA W fv fs) := h1.stay hF
  have H2 : Hd (SsA W sv ss) := h2.stay hF
  have HF : Hd (Fr (fun _ => False) w W) := hF
  have HBS : Hd (FineS ss) := b2
  have hbl := b2.1
  obtain ⟨fa, fc, efv, -⟩ := h1
  obtain ⟨sa, sc, esv, -⟩ := h2
  subst efv esv
  have HC : Hd (∀ wr, Fr (fun _ => False) W wr → wr.cell? ⟨X, 1, none⟩ = some (.slice fa fs.length fc)) := fun wr f => by
    have e1 := (f.block _ (heap_lt k1) (fun h => h)).trans k1
    rw [cell_of e1]; rfl
  clear hW hF k1 hX b1 b2
  have d1 := HC.out W (Fr.refl _ _)
  go_enter Tryd.func16, Tryd.ntmps16
  go_upto_region 1 with fail
  rw [← HW.out, ← HX.out]
  clear HW HX
  by_cases hls : ss.length = fs.length
  · have e1 : ((ss.length : Int) != (fs.length : Int)) = false := by simp [hls]
    have HXX : Hd (rgtX fs ss = (List.range ss.length).all (rgtI fs ss)) := by unfold Hd rgtX; rw [decide_eq_true hls]; rfl
    have HLS : Hd (ss.length = fs.length) := hls
    clear hls
    go_wp2_with fail
    clear e1 d1
    go_loopw [5] (fun v wr => ∃ (k : Nat), v = .int .i64 k ∧ k ≤ ss.length ∧ Hd (Fr (fun _ => False) W wr) ∧ Hd ((List.range k).all (rgtI fs ss) = true)) (fun v _ => match v with | .int _ q => ss.length - q.toNat | _ => 0)
    case atStart => exact ⟨0, rfl, by omega, Fr.refl _ _, rfl⟩
    case round =>
      obtain ⟨k, rfl, hk, HFr, HA⟩ := hrel
      have d1 := HC.out wr HFr.out
      by_cases hlt : k < ss.length
      · have hkf : k < fs.length := by have := HLS.out; omega
        obtain ⟨a', c', e', hss⟩ := H2.out.stay HFr.out
        cases e'
        obtain ⟨sk, so, rfl, hsk, hss⟩ := hss (by intro e; rw [e] at hlt; simp at hlt)
        obtain ⟨hv, rv, s0, s1, hH, hR⟩ := hss k hlt
        obtain ⟨a', c', e', hff⟩ := H1.out.stay HFr.out
        cases e'
        obtain ⟨fk, fo, rfl, hfk, hff⟩ := hff (by intro e; rw [e] at hkf; simp at hkf)
        obtain ⟨cv, f0, f1, f2, f3, hcv⟩ := hff k hkf
        obtain ⟨na, nc, rfl, -⟩ := hcv
        obtain ⟨bs1, bs2, bs3⟩ := HBS.out.2 ss[k] (List.getElem_mem hlt)
        have hct := rright_any hv rv ss[k] fs[k].P fs[k].R fs[k].V na fs[k].code.length nc wr.drew (hH.stay (Fr.refl (fun _ => False) wr).drew) (hR.stay (Fr.refl (fun _ => False) wr).drew) bs1 (by omega) bs3
        have hrg : rgtI fs ss k = (decide (0 ≤ fs[k].P) && (decide (0 ≤ fs[k].R) && fitsX ss[k] fs[k].P fs[k].R)) := by unfold rgtI; simp [hlt, hkf]
        have HNX := rng_succ (rgtI fs ss) k
        have HBD : Hd (rgtI fs ss k = false → rgtX fs ss = false) := fun e => by rw [HXX.out]; exact rng_bad hlt e
        obtain ⟨ha, hc, rfl, -⟩ := hH
        obtain ⟨la, lc, rfl, -⟩ := hR
        have hk0 : (0 : Int) ≤ k := by omega
        have hk1 : (k : Int) < ss.length := by omega
        have hk2 : (k : Int) < fs.length := by omega
        clear hss hff bs1 bs2 bs3
        generalize hfx : fitsX ss[k] fs[k].P fs[k].R = fx at *
        generalize fs[k] = f at *
        generalize ss[k] = s at *
        by_cases hp : f.P < 0
        · have g1 : decide (f.P < 0) = true := by simp; omega
          have HR := HBD.out (by rw [hrg]; simp; omega)
          have HR : Hd (rgtX fs ss = false) := HR
          clear hrg HNX HBD hct hfx hp
          go_wp2_with fail
          go_quiet (fail)
          go_wp2_with fail
          go_ret
          exact ⟨by rw [HR.out]; rfl, HF.out.trans ⟨HFr.out.os, HFr.out.tape, HFr.out.output, HFr.out.size, HFr.out.block⟩⟩
        have g1 : decide (f.P < 0) = false := by simp; omega
        by_cases hr : f.R < 0
        · have g2 : decide (f.R < 0) = true := by simp; omega
          have HR := HBD.out (by rw [hrg]; simp; omega)
          have HR : Hd (rgtX fs ss = false) := HR
          clear hrg HNX HBD hct hfx hp hr
          go_wp2_with fail
          go_quiet (fail)
          go_wp2_with fail
          go_ret
          exact ⟨by rw [HR.out]; rfl, HF.out.trans ⟨HFr.out.os, HFr.out.tape, HFr.out.output, HFr.out.size, HFr.out.block⟩⟩
        have g2 : decide (f.R < 0) = false := by simp; omega
        go_upto_region 6 with fail
        refine wp_region_still_tail 26 mixed (by kernel_rfl) ?_
        simp only [List.take_succ_cons, List.take_zero, List.drop_succ_cons, List.drop_zero]
        repeat still_step
        refine wpStill_nil ?_
        go_wp2_with fail
        refine hct.mono ?_
        rintro _ w6 ⟨rfl, hF6⟩
        have HF6 : Hd (Fr (fun _ => False) W w6) := HFr.out.trans (((Fr.refl (fun _ => False) wr).drew).trans hF6)
        clear hct hF6 s0 s1 f0 f1 f2 f3 d1
        cases fx with
        | true =>
          have HT : Hd ((List.range (k + 1)).all (rgtI fs ss) = true) := by unfold Hd; rw [HNX, HA.out, hrg]; simp; omega
          clear HNX HBD hrg hfx hp hr
          go_wp2_with fail
          exact ⟨⟨k + 1, castW k, hlt, HF6, HT⟩, measW hlt⟩
        | false =>
          have HR := HBD.out (by rw [hrg]; simp)
          have HR : Hd (rgtX fs ss = false) := HR
          clear HNX HBD hrg hfx hp hr
          go_wp2_with fail
          go_ret
          exact ⟨by rw [HR.out]; rfl, HF.out.trans HF6.out⟩
      · have hdk : decide ((k : Int) < ss.length) = false := by simp; omega
        have hke : k = ss.length := by omega
        have HR : Hd (rgtX fs ss = true) := by unfold Hd; rw [HXX.out, ← hke]; exact HA.out
        clear hke
        go_wp2_with fail
        go_ret
        exact ⟨by rw [HR.out]; rfl, HF.out.trans HFr.out⟩
  · have e1 : ((ss.length : Int) != (fs.length : Int)) = true := by simp; omega
    have HR : Hd (rgtX fs ss = false) := by unfold Hd rgtX; rw [decide_eq_false hls]; rfl
    go_wp2_with fail
    go_ret
    exact ⟨by rw [HR.out]; rfl, HF.out⟩
end Go.Proofs.YtlmlmhinbkcpoaaDoor

namespace Go.Proofs.YtlmlmhinbkcpoaaDoor
open Go.RowKit (wrap32 wrap64)
set_option linter.unusedVariables false
set_option linter.unusedSimpArgs false

/-- The blocks of numbers of a summary of one's own. -/
def blkS (x : SI) (k : Nat) : Prop := x.2.1.ownBlock = some k ∨ ∃ u ∈ x.2.2.2, u.ownBlock = some k
/-- Summaries of one's own, each apart from the others. -/
structure SsP (w : World) (B : Nat) (v : Value) (L : List SI) : Prop where
  so : SsO w B v L
  ap : ∀ i j (hi : i < L.length) (hj : j < L.length), i ≠ j → ∀ k, blkS L[i] k → ¬ blkS L[j] k
theorem SO.blk {w : World} {B : Nat} {s : PS} {hv rv : Value} {us : List Value} (h : SO w B hv rv us s) {k : Nat} (hk : blkS (s, hv, rv, us) k) : B ≤ k ∧ k < w.heap.size := by
  rcases hk with hk | ⟨u, hu, hk⟩
  · exact h.oh.ge k hk
  · have hu : u ∈ us := hu
    obtain ⟨i, hi, rfl⟩ := List.mem_iff_getElem.1 hu
    exact (h.lo.each i hi (by have := h.lo.ul; omega)).ge k hk
theorem SsP.stay {w w' : World} {B : Nat} {v : Value} {L : List SI} (h : SsP w B v L) (f : Fr (fun _ => False) w w') : SsP w' B v L := ⟨h.so.stay f, h.ap⟩
theorem apart_app {L : List SI} {x : SI} {n : Nat} (h : ∀ i j (hi : i < L.length) (hj : j < L.length), i ≠ j → ∀ k, blkS L[i] k → ¬ blkS L[j] k) (h1 : ∀ i (hi : i < L.length) k, blkS L[i] k → k < n) (h2 : ∀ k, blkS x k → n ≤ k) :
    ∀ i j (hi : i < (L ++ [x]).length) (hj : j < (L ++ [x]).length), i ≠ j → ∀ k, blkS (L ++ [x])[i] k → ¬ blkS (L ++ [x])[j] k := by
  intro i j hi hj hne k e e2
  have hi' : i < L.length + 1 := by simpa using hi
  have hj' : j < L.length + 1 := by simpa using hj
  by_cases ei : i < L.length
  · rw [List.getElem_append_left ei] at e
    by_cases ej : j < L.length
    · rw [List.getElem_append_left ej] at e2
      exact h i j ei ej hne k e e2
    · have e3 : j = L.length := by omega
      subst e3
      have e4 : (L ++ [x])[L.length] = x := by simp
      rw [e4] at e2
      have := h1 i ei k e
      have := h2 k e2
      omega
  · have e3 : i = L.length := by omega
    subst e3
    have e4 : (L ++ [x])[L.length] = x := by simp
    rw [e4] at e
    have ej : j < L.length := by omega
    rw [List.getElem_append_left ej] at e2
    have := h1 j ej k e2
    have := h2 k e
    omega

set_option maxRecDepth 100000 in
set_option maxHeartbeats 2000000 in
theorem copySumsP_any (v : Value) (ss : List PS) (w : World) (hl : SsA w v ss) (hn : FineS ss) :
    Calls Tryd.prog 11 #[v] w fun e w' => ∃ v' L, e = .returned v' ∧ SsP w' w.heap.size v' L ∧ L.map (·.1) = ss ∧ Fr (fun _ => False) w w' := by
  obtain ⟨ea, ec, rfl, hein⟩ := hl
  have HE : Hd _ := hein
  have HFI : Hd (FineS ss) := hn
  have hz := hn.1
  clear hein hn
  obtain ⟨i7, hi7, hz7, hs7, hb7⟩ := info_parts (P := Tryd.prog) (e := 34) (z := .agg #[.slice none 0 0, .slice none 0 0]) (size := 2) (bytes := 48) (by kernel_rfl)
  go_enter Tryd.func11, Tryd.ntmps11
  go_wp2_with fail
  go_loopw [3, 4] (fun mv v wr => ∃ (k : Nat) (L : List SI), v = .int .i64 k ∧ k ≤ ss.length ∧ Hd (SsP wr w.heap.size mv L) ∧ Hd (L.map (·.1) = ss.take k) ∧ Hd (Fr (fun _ => False) w wr)) (fun _ v _ => match v with | .int _ q => ss.length - q.toNat | _ => 0)
  case atStart => exact ⟨0, [], rfl, Nat.zero_le _, ⟨⟨World.ownsRow_nil _ _ _ _, fun x hx => by simp at hx⟩, fun i j hi => by simp at hi⟩, rfl, Fr.refl _ _⟩
  case round =>
    obtain ⟨k, L, rfl, hk, HO, HM, HF⟩ := hrel
    by_cases hlt : k < ss.length
    · have hne : ss ≠ [] := by intro e; simp [e] at hlt
      obtain ⟨k1, o1, rfl, hk1, g1⟩ := HE.out hne
      obtain ⟨x1, y1, p0, p1, ix1, iy1⟩ := g1 k hlt
      have m1 := fun o => HF.out.cell (o := o) hk1 (fun h => h)
      have p0 := (m1 _).trans p0
      have p1 := (m1 _).trans p1
      have X1 : Hd (IA wr x1 ss[k].H) := ix1.stay HF.out
      have Y1 : Hd (LA wr y1 ss[k].R) := iy1.stay HF.out
      have HC := HFI.out.2 _ (List.getElem_mem hlt)
      have HT : Hd (ss.take (k + 1) = ss.take k ++ [ss[k]]) := by unfold Hd; rw [List.take_add_one, List.getElem?_eq_getElem hlt]; rfl
      have HLL : Hd (L.length = k) := by have := congrArg List.length HM.out; simp at this; unfold Hd; omega
      generalize ss[k] = f at *
      obtain ⟨a, b, e1, -⟩ := ix1
      obtain ⟨a', b', e2, -⟩ := iy1
      subst e1 e2
      obtain ⟨q1, q2, q3⟩ := HC
      have hct := copySummary_any _ _ f wr X1.out Y1.out q1 q2 q3
      have hk0 : (0 : Int) ≤ k := by omega
      have hk3 : (k : Int) < ss.length := by omega
      clear g1 m1 q3
      go_wp2_with fail
      refine hct.mono ?_
      rintro e w1 ⟨hv, rv, us, rfl, hx, hF1⟩
      have HAP : Hd (∀ i j (hi : i < (L ++ [((f, hv, rv, us) : SI)]).length) (hj : j < (L ++ [((f, hv, rv, us) : SI)]).length), i ≠ j → ∀ k, blkS (L ++ [((f, hv, rv, us) : SI)])[i] k → ¬ blkS (L ++ [((f, hv, rv, us) : SI)])[j] k) :=
        apart_app (n := wr.heap.size) HO.out.ap (fun i hi j e => ((HO.out.so.each L[i] (List.getElem_mem hi)).blk e).2) (fun j e => by have := (hx.blk e).1; omega)
      obtain ⟨xa, xc, eh⟩ := own_slice hx.oh
      obtain ⟨ya, yc, er⟩ := own_slice hx.lo.row
      subst eh er
      obtain ⟨wb, hwb⟩ : ∃ wb, wb = w1.alloc (.cells #[.slice xa f.H.length xc, .slice ya us.length yc] 34) := ⟨_, rfl⟩
      have hFb : Fr (fun _ => False) w1 wb := by rw [hwb]; exact Fr.alloc (Fr.refl _ w1) _
      have hFc : Fr (fun _ => False) w1 (wb.alloc (.cells #[.slice xa f.H.length xc, .slice ya us.length yc] 34)) := Fr.alloc hFb _
      have b1 : wb.heap[w1.heap.size]? = some (.cells #[.slice xa f.H.length xc, .slice ya us.length yc] 34) := by rw [hwb]; exact heap_new w1 _
      have HO1 : Hd (SsO (wb.alloc (.cells #[.slice xa f.H.length xc, .slice ya us.length yc] 34)) w.heap.size u3 L) := HO.out.so.stay (hF1.trans hFc)
      have HX1 : Hd (SO (wb.alloc (.cells #[.slice xa f.H.length xc, .slice ya us.length yc] 34)) w.heap.size (.slice xa f.H.length xc) (.slice ya us.length yc) us f) := (hx.keep hFc).mono (by have := HF.out.size; omega)
      have HF1 : Hd (Fr (fun _ => False) w (wb.alloc (.cells #[.slice xa f.H.length xc, .slice ya us.length yc] 34))) := HF.out.trans (hF1.trans hFc)
      have HWB : Hd (wb = w1.alloc (.cells #[.slice xa f.H.length xc, .slice ya us.length yc] 34)) := hwb
      have HRW : Hd ((wb.alloc (.cells #[.slice xa f.H.length xc, .slice ya us.length yc] 34)).ownsRow w.heap.size 34 2 u3 L.length (L.flatMap rowS)) := HO1.out.row
      have hnews : ∀ j u, [Value.slice xa f.H.length xc, .slice ya us.length yc][j]? = some u → (wb.alloc (.cells #[.slice xa f.H.length xc, .slice ya us.length yc] 34)).cell? ((⟨wb.heap.size, 0, none⟩ : Addr).add j) = some u :=
        World.news_of_block (cs := #[.slice xa f.H.length xc, .slice ya us.length yc]) (heap_new wb _)
      have hbase : w.heap.size ≤ (wb.alloc (.cells #[.slice xa f.H.length xc, .slice ya us.length yc] 34)).heap.size := HF1.out.size
      have hEl : L.length + 1 ≤ 2932031007318 := by have := HLL.out; omega
      have u0 : wb.cell? ⟨w1.heap.size, 0, none⟩ = some (.slice xa f.H.length xc) := by rw [cell_of b1]; rfl
      have u1 : wb.cell? ⟨w1.heap.size, 1, none⟩ = some (.slice ya us.length yc) := by rw [cell_of b1]; rfl
      clear hx hF1 hFb hFc b1 HO HF hwb p0 p1 hct
      go_upto_region 6 with fail
      rw [← HWB.out]
      clear HWB
      go_wp2_with ((at_builtin; refine Hd.out ?_))
      unfold Hd
      refine wpList_append_lies _ rfl (.tmp 17) (.tmp 19) 25 rfl w.heap.size 34 i7 (.agg #[.slice none 0 0, .slice none 0 0]) 2 48 under25 hi7 hz7 hs7 hb7 rfl (by omega) u3 L.length _ rfl HRW.out ⟨wb.heap.size, 0, none⟩ 1 1 [.slice xa f.H.length xc, .slice ya us.length yc] rfl rfl hnews (by intro u hu; simp at hu; rcases hu with rfl | rfl <;> rfl) (by omega) (by unfold maxLen; omega) (by omega) hbase (wb.heap.size + 1) (by simp) ?_
      intro g6 cap6 w6 hown6 hgrow6 hat6 hlt6
      have hF6 := grown_frL hgrow6
      have HO6 : Hd (SsO w6 w.heap.size (.slice (some ⟨g6, 0, none⟩) (L.length + 1) cap6) (L ++ [(f, .slice xa f.H.length xc, .slice ya us.length yc, us)])) := by
        have keep : ∀ (hv rv : Value) (us : List Value) (s : PS), SO (wb.alloc (.cells #[.slice xa f.H.length xc, .slice ya us.length yc] 34)) w.heap.size hv rv us s → True := fun _ _ _ _ _ => trivial
        have keep : ∀ (hv rv : Value) (us' : List Value) (s : PS), SO (wb.alloc (.cells #[.slice xa f.H.length xc, .slice ya us.length yc] 34)) w.heap.size hv rv us' s → SO w6 w.heap.size hv rv us' s := fun hv rv us' s hM =>
          hM.other hF6 (fun j e e2 => own_apart HRW.out hM.oh (by decide) j e e2) (fun j e e2 => own_apart HRW.out hM.lo.row (by decide) j e e2) (fun i hi j e e2 => own_apart HRW.out (hM.lo.each i hi (by have := hM.lo.ul; omega)) (by decide) j e e2)
        refine ⟨?_, fun x hx => ?_⟩
        · rw [List.length_append, List.flatMap_append]
          simpa using hown6
        · rcases List.mem_append.1 hx with hx | hx
          · exact keep _ _ _ _ (HO1.out.each x hx)
          · simp at hx
            subst hx
            exact keep _ _ _ _ HX1.out
      have HF6 : Hd (Fr (fun _ => False) w w6) := grow_fr0 HF1.out hgrow6 (fun k hk => (World.ownsRow.lt HRW.out k hk).1)
      have HM6 : Hd ((L ++ [((f, .slice xa f.H.length xc, .slice ya us.length yc, us) : SI)]).map (·.1) = ss.take (k + 1)) := by unfold Hd; rw [HT.out, List.map_append, HM.out]; rfl
      clear hown6 hgrow6 hat6 hlt6 hnews hbase u0 u1 HRW HO1 HX1 HF1 HM hF6
      go_wp2_with fail
      exact ⟨⟨k + 1, _, by simp, by omega, ⟨HO6.out, HAP.out⟩, HM6, HF6⟩, by simp; omega⟩
    · have hdk : decide ((k : Int) < ss.length) = false := by simp; omega
      have HM2 : Hd (L.map (·.1) = ss) := by have := HM.out; rw [List.take_of_length_le (by omega)] at this; exact this
      clear HM
      go_wp2_with fail
      go_ret
      exact ⟨u3, L, rfl, HO.out, HM2.out, HF.out⟩
end Go.Proofs.YtlmlmhinbkcpoaaDoor

namespace Go.Proofs.YtlmlmhinbkcpoaaDoor
open Go.RowKit (wrap32 wrap64)
set_option linter.unusedVariables false
set_option linter.unusedSimpArgs false

theorem iown_set {w : World} {B g cap : Nat} {l : List Int} (h : IOwn w B (.slice (some ⟨g, 0, none⟩) l.length cap) l) (k : Nat) (d : Int) : IOwn (w.setCell ⟨g, k, none⟩ (vI d)) B (.slice (some ⟨g, 0, none⟩) l.length cap) (l.set k d) := by
  have := (row_set (j := k) h (vI d)).1
  unfold IOwn
  rw [List.length_set, List.map_set]
  exact this
theorem SO.setH {w : World} {B g cap : Nat} {hv rv : Value} {us : List Value} {s : PS} (h : SO w B hv rv us s) (e : hv = .slice (some ⟨g, 0, none⟩) s.H.length cap) (k : Nat) (d : Int) : SO (w.setCell ⟨g, k, none⟩ (vI d)) B hv rv us ⟨s.H.set k d, s.R⟩ := by
  have f := setCell_fr w g k (vI d)
  have hg : hv.ownBlock = some g := by rw [e]; rfl
  refine ⟨?_, ⟨ownsRow_frL h.lo.row f (fun j ej e2 => ?_), h.lo.ul, fun i hi hk => (h.lo.each i hi hk).fr f (fun j ej e2 => ?_), h.lo.apart⟩, h.ap⟩
  · subst e
    exact iown_set h.oh k d
  · subst e2
    exact own_apart h.lo.row h.oh (by decide) j hg ej
  · subst e2
    exact h.ap i hi j ej hg
theorem SO.setR {w : World} {B g cap k : Nat} {hv rv : Value} {us : List Value} {s : PS} (h : SO w B hv rv us s) (hk : k < us.length) (hk' : k < s.R.length) (e : us[k] = .slice (some ⟨g, 0, none⟩) s.R[k].length cap) (j : Nat) (d : Int) : SO (w.setCell ⟨g, j, none⟩ (vI d)) B hv rv us ⟨s.H, s.R.set k (s.R[k].set j d)⟩ := by
  have f := setCell_fr w g j (vI d)
  have hg : us[k].ownBlock = some g := by rw [e]; rfl
  refine ⟨h.oh.fr f (fun j ej e2 => ?_), ⟨ownsRow_frL h.lo.row f (fun j ej e2 => ?_), by rw [List.length_set]; exact h.lo.ul, fun i hi hi' => ?_, h.lo.apart⟩, h.ap⟩
  · subst e2
    exact h.ap k hk j hg ej
  · subst e2
    exact own_apart h.lo.row (h.lo.each k hk hk') (by decide) j hg ej
  · have hi2 : i < s.R.length := by simpa using hi'
    by_cases ei : i = k
    · subst ei
      have e1 : (s.R.set i (s.R[i].set j d))[i] = s.R[i].set j d := List.getElem_set_self _
      show IOwn _ _ _ ((s.R.set i (s.R[i].set j d))[i])
      rw [e1, e]
      have := h.lo.each i hi hi2
      rw [e] at this
      exact iown_set this j d
    · have e1 : (s.R.set k (s.R[k].set j d))[i] = s.R[i] := List.getElem_set_ne (Ne.symm ei) _
      show IOwn _ _ _ ((s.R.set k (s.R[k].set j d))[i])
      rw [e1]
      exact (h.lo.each i hi hi2).fr f (fun q eq e2 => by subst e2; exact h.lo.apart i k hi hk ei q eq hg)
/-- A summary with other numbers, in the same lists. -/
abbrev putS (x : SI) (s : PS) : SI := (s, x.2)
theorem blk_put (x : SI) (s : PS) (k : Nat) : blkS (putS x s) k = blkS x k := rfl
theorem flat_put {L : List SI} {i : Nat} {s : PS} (hi : i < L.length) : (L.set i (putS L[i] s)).flatMap rowS = L.flatMap rowS := by
  have e : (L.set i (putS L[i] s)).map rowS = L.map rowS := by
    rw [List.map_set]
    have : rowS (putS L[i] s) = (L.map rowS)[i]'(by simpa using hi) := by simp
    rw [this, List.set_getElem_self]
  rw [List.flatMap_def, e, ← List.flatMap_def]
theorem SsP.put {w w' : World} {B g i : Nat} {v : Value} {L : List SI} {s : PS} (h : SsP w B v L) (hi : i < L.length) (hg : blkS L[i] g) (f : Fr (fun j => j = g) w w') (hs : SO w' B L[i].2.1 L[i].2.2.1 L[i].2.2.2 s) : SsP w' B v (L.set i (putS L[i] s)) := by
  have hti : ∃ u l, IOwn w B u l ∧ u.ownBlock = some g := by
    have hx := h.so.each L[i] (List.getElem_mem hi)
    rcases hg with hg | ⟨u, hu, hg⟩
    · exact ⟨_, _, hx.oh, hg⟩
    · obtain ⟨q, hq, rfl⟩ := List.mem_iff_getElem.1 hu
      exact ⟨_, _, hx.lo.each q hq (by have := hx.lo.ul; omega), hg⟩
  obtain ⟨gu, gl, hgu, hgb⟩ := hti
  have hb : ∀ q (hq : q < L.length) k, blkS ((L.set i (putS L[i] s))[q]'(by simpa using hq)) k → blkS L[q] k := fun q hq k hk => by
    rw [List.getElem_set] at hk
    split at hk
    · rename_i e
      subst e
      exact hk
    · exact hk
  refine ⟨⟨?_, fun x hx => ?_⟩, fun a b ha hb' hne k e1 e2 => ?_⟩
  · rw [flat_put hi, List.length_set]
    exact ownsRow_frL h.so.row f (fun j ej e2 => by subst e2; exact own_apart h.so.row hgu (by decide) j hgb ej)
  · obtain ⟨q, hq, rfl⟩ := List.mem_iff_getElem.1 hx
    have hq' : q < L.length := by simpa using hq
    rw [List.getElem_set]
    split
    · exact hs
    · rename_i hne
      have hx := h.so.each L[q] (List.getElem_mem hq')
      have no : ∀ k, blkS L[q] k → ¬ k = g := fun k hk e => by
        subst e
        exact h.ap i q hi hq' hne k hg hk
      exact hx.other f (fun k e => no k (Or.inl e)) (fun k e e2 => by subst e2; exact own_apart hx.lo.row hgu (by decide) k hgb e) (fun p hp k e => no k (Or.inr ⟨_, List.getElem_mem hp, e⟩))
  · have ha' : a < L.length := by simpa using ha
    have hb2 : b < L.length := by simpa using hb'
    exact h.ap a b ha' hb2 hne k (hb a ha' k e1) (hb b hb2 k e2)

/-! ### numbers that fall -/
/-- A summary of the same form whose numbers are at most the other's, and are numbers that a summary may have. -/
structure Okk (s' s : PS) : Prop where
  lw : Lwr s' s
  h : ∀ d ∈ s'.H, derOk d = true
  r : ∀ l ∈ s'.R, ∀ d ∈ l, derOk d = true
theorem Okk.refl {s : PS} (h : ∀ d ∈ s.H, derOk d = true) (r : ∀ l ∈ s.R, ∀ d ∈ l, derOk d = true) : Okk s s :=
  ⟨⟨rfl, fun _ _ _ => Int.le_refl _, rfl, fun _ _ _ => rfl, fun _ _ _ _ _ _ => Int.le_refl _⟩, h, r⟩
theorem Okk.setH {s' s : PS} (h : Okk s' s) {k : Nat} (hk : k < s'.H.length) {d : Int} (hd : d ≤ s'.H[k]) (ho : derOk d = true) : Okk ⟨s'.H.set k d, s'.R⟩ s := by
  refine ⟨⟨by rw [List.length_set]; exact h.lw.h, fun i hi hi' => ?_, h.lw.r, h.lw.rl, h.lw.rn⟩, fun x hx => ?_, h.r⟩
  · have hi2 : i < s'.H.length := by simpa using hi'
    show (s'.H.set k d)[i] ≤ _
    rw [List.getElem_set]
    split
    · rename_i e
      subst e
      exact Int.le_trans hd (h.lw.hn k hi hk)
    · exact h.lw.hn i hi hi2
  · rcases List.mem_or_eq_of_mem_set hx with hx | rfl
    · exact h.h x hx
    · exact ho
theorem Okk.setR {s' s : PS} (h : Okk s' s) {k j : Nat} (hk : k < s'.R.length) (hj : j < s'.R[k].length) {d : Int} (hd : d ≤ s'.R[k][j]) (ho : derOk d = true) : Okk ⟨s'.H, s'.R.set k (s'.R[k].set j d)⟩ s := by
  refine ⟨⟨h.lw.h, h.lw.hn, by rw [List.length_set]; exact h.lw.r, fun i hi hi' => ?_, fun i hi hi' q hq hq' => ?_⟩, h.h, fun l hl x hx => ?_⟩
  · have hi2 : i < s'.R.length := by simpa using hi'
    show ((s'.R.set k (s'.R[k].set j d))[i]).length = _
    rw [List.getElem_set]
    split
    · rename_i e
      subst e
      rw [List.length_set]
      exact h.lw.rl k hi hk
    · exact h.lw.rl i hi hi2
  · have hi2 : i < s'.R.length := by simpa using hi'
    have hq2 : q < s'.R[i].length := by rw [h.lw.rl i hi hi2]; exact hq
    show ((s'.R.set k (s'.R[k].set j d))[i])[q] ≤ _
    by_cases ei : k = i
    · subst ei
      have e1 : (s'.R.set k (s'.R[k].set j d))[k] = s'.R[k].set j d := List.getElem_set_self _
      have e2 : ((s'.R.set k (s'.R[k].set j d))[k])[q]'hq' = (s'.R[k].set j d)[q]'(by rw [List.length_set]; exact hq2) := by simp only [e1]
      rw [e2, List.getElem_set]
      split
      · rename_i e
        subst e
        exact Int.le_trans hd (h.lw.rn k hi hk j hq hj)
      · exact h.lw.rn k hi hk q hq hq2
    · have e1 : (s'.R.set k (s'.R[k].set j d))[i] = s'.R[i] := List.getElem_set_ne ei _
      have e2 : ((s'.R.set k (s'.R[k].set j d))[i])[q]'hq' = s'.R[i][q] := by simp only [e1]
      rw [e2]
      exact h.lw.rn i hi hi2 q hq hq2
  · rcases List.mem_or_eq_of_mem_set hl with hl | rfl
    · exact h.r l hl x hx
    · rcases List.mem_or_eq_of_mem_set hx with hx | rfl
      · exact h.r _ (List.getElem_mem hk) x hx
      · exact ho
/-- The same, summary by summary. -/
structure OkL (L : List SI) (al : List PS) : Prop where
  len : L.length = al.length
  each : ∀ i (h : i < L.length) (h' : i < al.length), Okk L[i].1 al[i]
theorem OkL.put {L : List SI} {al : List PS} (h : OkL L al) {i : Nat} (hi : i < L.length) (hi' : i < al.length) {s : PS} (hs : Okk s al[i]) : OkL (L.set i (putS L[i] s)) al := by
  refine ⟨by rw [List.length_set]; exact h.len, fun q hq hq' => ?_⟩
  have hq2 : q < L.length := by simpa using hq
  rw [List.getElem_set]
  split
  · rename_i e
    subst e
    exact hs
  · exact h.each q hq2 hq'
end Go.Proofs.YtlmlmhinbkcpoaaDoor

namespace Go.Proofs.YtlmlmhinbkcpoaaDoor
open Go.RowKit (wrap32 wrap64)
set_option linter.unusedVariables false
set_option linter.unusedSimpArgs false

/-- Two summaries of one form, with numbers that summaries may have. -/
structure Sm (a b : PS) : Prop where
  hh : b.H.length = a.H.length
  hr : a.R.length = a.H.length
  hr' : b.R.length = a.H.length
  hl : ∀ k (h : k < a.R.length) (h' : k < b.R.length), b.R[k].length = a.R[k].length
  bh : ∀ d ∈ b.H, derOk d = true
  br : ∀ l ∈ b.R, ∀ d ∈ l, derOk d = true
theorem SsP.cells {w : World} {B i : Nat} {v : Value} {L : List SI} (h : SsP w B v L) (hi : i < L.length) :
    ∃ g cap, v = .slice (some ⟨g, 0, none⟩) L.length cap ∧ g < w.heap.size ∧ w.cell? ⟨g, i * 2, none⟩ = some L[i].2.1 ∧ w.cell? ⟨g, i * 2 + 1, none⟩ = some L[i].2.2.1 ∧ SO w B L[i].2.1 L[i].2.2.1 L[i].2.2.2 L[i].1 := by
  obtain ⟨g, cap, e, hg, c0⟩ := own_cell h.so.row (j := i * 2 + 0) (u := L[i].2.1) (by rw [flat_get rowS 2 (fun _ => rfl) L i 0 hi (by omega)]; rfl)
  obtain ⟨g', cap', e', -, c1⟩ := own_cell h.so.row (j := i * 2 + 1) (u := L[i].2.2.1) (by rw [flat_get rowS 2 (fun _ => rfl) L i 1 hi (by omega)]; rfl)
  subst e
  cases e'
  exact ⟨g, cap, rfl, hg, c0, c1, h.so.each L[i] (List.getElem_mem hi)⟩
/-- What stands between two steps of above. -/
def Abv (w0 : World) (v : Value) (al : List PS) (wr : World) : Prop := ∃ L, SsP wr w0.heap.size v L ∧ OkL L al ∧ Fr (fun _ => False) w0 wr
theorem Abv.same {w0 wr wr' : World} {v : Value} {al : List PS} (h : Abv w0 v al wr) (f : Fr (fun _ => False) wr wr') : Abv w0 v al wr' := by
  obtain ⟨L, h1, h2, h3⟩ := h
  exact ⟨L, h1.stay f, h2, h3.trans f⟩
/-- The cells of the list that is made: the row of summaries, a list of the Heap, a number of it. -/
theorem Abv.heapAt {w0 wr : World} {v : Value} {al : List PS} {i : Nat} (h : Abv w0 v al wr) (hi : i < al.length) :
    ∃ g cap hv rv, v = .slice (some ⟨g, 0, none⟩) al.length cap ∧ wr.cell? ⟨g, i * 2, none⟩ = some hv ∧ wr.cell? ⟨g, i * 2 + 1, none⟩ = some rv ∧ (∃ a c, hv = .slice a al[i].H.length c) ∧ (∃ a c, rv = .slice a al[i].R.length c) ∧
      (∀ k (hk : k < al[i].H.length), ∃ hg hc d, hv = .slice (some ⟨hg, 0, none⟩) al[i].H.length hc ∧ w0.heap.size ≤ hg ∧ wr.cell? ⟨hg, k, none⟩ = some (vI d) ∧ wr.frozen? ⟨hg, k, none⟩ = false ∧ ∀ x, x ≤ d → derOk x = true → Abv w0 v al (wr.setCell ⟨hg, k, none⟩ (vI x))) ∧
      (∀ k (hk : k < al[i].R.length), ∃ rg rc u, rv = .slice (some ⟨rg, 0, none⟩) al[i].R.length rc ∧ wr.cell? ⟨rg, k, none⟩ = some u ∧ (∃ a c, u = .slice a al[i].R[k].length c) ∧
        ∀ j (hj : j < al[i].R[k].length), ∃ ug uc d, u = .slice (some ⟨ug, 0, none⟩) al[i].R[k].length uc ∧ w0.heap.size ≤ ug ∧ wr.cell? ⟨ug, j, none⟩ = some (vI d) ∧ wr.frozen? ⟨ug, j, none⟩ = false ∧ ∀ x, x ≤ d → derOk x = true → Abv w0 v al (wr.setCell ⟨ug, j, none⟩ (vI x))) := by
  obtain ⟨L, h1, h2, h3⟩ := h
  have hi' : i < L.length := by rw [h2.len]; exact hi
  obtain ⟨g, cap, e, hg, c0, c1, hso⟩ := h1.cells hi'
  have hok := h2.each i hi' hi
  have lH := hok.lw.h
  have lR := hok.lw.r
  refine ⟨g, cap, _, _, by rw [e, h2.len], c0, c1, ?_, ?_, fun k hk => ?_, fun k hk => ?_⟩
  · obtain ⟨a, c, e1⟩ := own_slice hso.oh
    exact ⟨a, c, by rw [e1, lH]⟩
  · obtain ⟨a, c, e1⟩ := own_slice hso.lo.row
    exact ⟨a, c, by rw [e1, hso.lo.ul, lR]⟩
  · have hk' : k < L[i].1.H.length := by omega
    obtain ⟨hg, hc, e1, -, hcell⟩ := own_cell hso.oh (j := k) (u := vI L[i].1.H[k]) (by rw [List.getElem?_map, List.getElem?_eq_getElem hk']; rfl)
    have hb : L[i].2.1.ownBlock = some hg := by rw [e1]; rfl
    have hz : wr.frozen? ⟨hg, k, none⟩ = false := by
      have := hso.oh
      rw [e1] at this
      exact (row_set (j := k) this (vI 0)).2
    refine ⟨hg, hc, L[i].1.H[k], by rw [e1, lH], (hso.oh.ge hg hb).1, hcell, hz, fun x hx hd => ?_⟩
    have f := setCell_fr wr hg k (vI x)
    exact ⟨_, h1.put hi' (Or.inl hb) f (hso.setH e1 k x), h2.put hi' hi (hok.setH hk' hx hd), h3.then f (fun j hj e => by have := (hso.oh.ge hg hb).1; have e : j = hg := e; omega)⟩
  · have hk' : k < L[i].1.R.length := by omega
    have hku : k < L[i].2.2.2.length := by have := hso.lo.ul; omega
    obtain ⟨rg, rc, e1, -, hcell⟩ := own_cell hso.lo.row (j := k) (u := L[i].2.2.2[k]) (List.getElem?_eq_getElem hku)
    have hui := hso.lo.each k hku hk'
    have lk := hok.lw.rl k hk hk'
    refine ⟨rg, rc, L[i].2.2.2[k], by rw [e1, hso.lo.ul, lR], hcell, ?_, fun j hj => ?_⟩
    · obtain ⟨a, c, e2⟩ := own_slice hui
      exact ⟨a, c, by rw [e2, lk]⟩
    · have hj' : j < L[i].1.R[k].length := by omega
      obtain ⟨ug, uc, e2, -, hc2⟩ := own_cell hui (j := j) (u := vI L[i].1.R[k][j]) (by rw [List.getElem?_map, List.getElem?_eq_getElem hj']; rfl)
      have hb : L[i].2.2.2[k].ownBlock = some ug := by rw [e2]; rfl
      have hz : wr.frozen? ⟨ug, j, none⟩ = false := by
        have := hui
        rw [e2] at this
        exact (row_set (j := j) this (vI 0)).2
      refine ⟨ug, uc, L[i].1.R[k][j], by rw [e2, lk], (hui.ge ug hb).1, hc2, hz, fun x hx hd => ?_⟩
      have f := setCell_fr wr ug j (vI x)
      exact ⟨_, h1.put hi' (Or.inr ⟨_, List.getElem_mem hku, hb⟩) f (hso.setR hku hk' e2 j x), h2.put hi' hi (hok.setR hk' hj' hx hd), h3.then f (fun q hq e => by have := (hui.ge ug hb).1; have e : q = ug := e; omega)⟩
end Go.Proofs.YtlmlmhinbkcpoaaDoor

namespace Go.Proofs.YtlmlmhinbkcpoaaDoor
open Go.RowKit (wrap32 wrap64)
set_option linter.unusedVariables false
set_option linter.unusedSimpArgs false

structure RgtP (fs : List PF) (ss : List PS) : Prop where
  len : ss.length = fs.length
  fit : ∀ i (h : i < ss.length) (h' : i < fs.length), fitsX ss[i] fs[i].P fs[i].R = true
theorem rgtP_of {fs : List PF} {ss : List PS} (h : rgtX fs ss = true) : RgtP fs ss := by
  unfold rgtX at h
  simp only [Bool.and_eq_true, decide_eq_true_eq, List.all_eq_true] at h
  refine ⟨h.1, fun i hi hi' => ?_⟩
  have := h.2 i (List.mem_range.2 hi)
  unfold rgtI at this
  simp only [Bool.and_eq_true] at this
  have e := this.2.2
  simpa [hi, hi'] using e
theorem RgtP.told {fs : List PF} {ss : List PS} (h : RgtP fs ss) {G : Int} {f : PF} (hc : checkP G (aloneP fs f) = 0) : toldX fs ss f.code = true := by
  unfold toldX
  rw [List.all_eq_true]
  intro c hcc
  unfold fitI
  split
  · rename_i h11
    obtain ⟨q, hq, hqf, -⟩ := (right_ok hc).call c hcc h11
    have hqs : q < ss.length := by rw [h.len]; exact hqf
    rw [hq]
    simpa [hqf, hqs] using h.fit q hqs hqf
  · rfl
theorem RgtP.edg {fs : List PF} {ss : List PS} (h : RgtP fs ss) (G F : Int) : EdgOk G fs F ss ↔ ∃ i : Nat, F = i ∧ ∃ h : i < fs.length, checkP G (aloneP fs fs[i]) = 0 :=
  ⟨fun ⟨i, e, hi, _, k, _⟩ => ⟨i, e, hi, k⟩, fun ⟨i, e, hi, k⟩ => ⟨i, e, hi, h.len, k, h.told k⟩⟩
theorem Okk.fits {s' s : PS} (h : Okk s' s) {P R : Int} (hf : fitsX s P R = true) : fitsX s' P R = true := by
  obtain ⟨l1, l2, l3, -, -⟩ := fits_len hf
  unfold fitsX dersX
  simp only [Bool.and_eq_true, decide_eq_true_eq, List.all_eq_true]
  refine ⟨by rw [h.lw.r]; exact l1, ⟨by rw [h.lw.h]; exact l2, h.h⟩, fun l hl => ⟨?_, h.r l hl⟩⟩
  obtain ⟨i, hi, rfl⟩ := List.mem_iff_getElem.1 hl
  have hi' : i < s.R.length := by have := h.lw.r; omega
  rw [h.lw.rl i hi' hi]
  exact l3 _ (List.getElem_mem hi')
theorem Okk.fine {s' s : PS} (h : Okk s' s) (hf : s.H.length ≤ 17592186043904 ∧ s.R.length ≤ 5864062014634 ∧ ∀ l ∈ s.R, l.length ≤ 17592186043904) : s'.H.length ≤ 17592186043904 ∧ s'.R.length ≤ 5864062014634 ∧ ∀ l ∈ s'.R, l.length ≤ 17592186043904 := by
  refine ⟨by rw [h.lw.h]; exact hf.1, by rw [h.lw.r]; exact hf.2.1, fun l hl => ?_⟩
  obtain ⟨i, hi, rfl⟩ := List.mem_iff_getElem.1 hl
  have hi' : i < s.R.length := by have := h.lw.r; omega
  rw [h.lw.rl i hi' hi]
  exact hf.2.2 _ (List.getElem_mem hi')
theorem sm_of {fs : List PF} {ss os : List PS} (h : RgtP fs ss) (k : RgtP fs os) (i : Nat) (hi : i < ss.length) (hi' : i < os.length) : Sm ss[i] os[i] := by
  have hf : i < fs.length := by rw [← h.len]; exact hi
  obtain ⟨a1, a2, a3, a4, a5⟩ := fits_len (h.fit i hi hf)
  obtain ⟨b1, b2, b3, b4, b5⟩ := fits_len (k.fit i hi' hf)
  refine ⟨by omega, by omega, by omega, fun q hq hq' => ?_, b4, b5⟩
  have := a3 _ (List.getElem_mem hq)
  have := b3 _ (List.getElem_mem hq')
  omega
/-- What above answers, as summaries that lie. -/
theorem Abv.lies {w0 w : World} {v : Value} {al : List PS} (h : Abv w0 v al w) (hf : FineS al) : ∃ ss', SsA w v ss' ∧ FineS ss' ∧ ss'.length = al.length ∧ (∀ q (h : q < ss'.length) (h' : q < al.length), Okk ss'[q] al[q]) ∧ Fr (fun _ => False) w0 w := by
  obtain ⟨L, h1, h2, h3⟩ := h
  have hl : (L.map (·.1)).length = al.length := by rw [List.length_map]; exact h2.len
  have ho : ∀ q (h : q < (L.map (·.1)).length) (h' : q < al.length), Okk (L.map (·.1))[q] al[q] := fun q hq hq' => by
    rw [List.getElem_map]
    exact h2.each q (by simpa using hq) hq'
  refine ⟨L.map (·.1), h1.so.sa, ⟨by rw [hl]; exact hf.1, fun s hs => ?_⟩, hl, ho, h3⟩
  obtain ⟨i, hi, rfl⟩ := List.mem_iff_getElem.1 hs
  have hi' : i < al.length := by omega
  exact (ho i hi hi').fine (hf.2 _ (List.getElem_mem hi'))
/-- What lesser says of two answers of Edges, the one with higher summaries. -/
theorem Ans.rises {G : Int} {fs : List PF} {F : Int} {ss ss' : List PS} {W : World} {x e x' e' : Value} (h : Ans G fs F ss W x e) (h' : Ans G fs F ss' W x' e') (hr : RgtP fs ss) (hl : ss'.length = ss.length) (ho : ∀ q (h : q < ss'.length) (h' : q < ss.length), Okk ss'[q] ss[q]) :
    (∃ z : Int, e = vI z ∧ e' = vI z) ∧ (∃ a n c, x = .slice a n c) ∧ (∃ a n c, x' = .slice a n c) ∧ Calls Tryd.prog 18 #[x', x] W fun e w' => e = .returned (.bool true) ∧ Fr (fun _ => False) W w' := by
  have hr' : RgtP fs ss' := ⟨by rw [hl]; exact hr.len, fun i hi hi' => (ho i hi (by omega)).fits (hr.fit i (by omega) hi')⟩
  have hok : EdgOk G fs F ss' ↔ EdgOk G fs F ss := (hr'.edg G F).trans (hr.edg G F).symm
  rcases h with ⟨hn, rfl, rfl⟩ | ⟨j, hj, k1, k2, k3, k4, rfl, k6⟩
  · rcases h' with ⟨hn', rfl, rfl⟩ | ⟨j', hj', m1, m2, m3, m4, rfl, m6⟩
    · exact ⟨⟨1, rfl, rfl⟩, ⟨_, _, _, rfl⟩, ⟨_, _, _, rfl⟩, lesser_any _ _ [] [] W (World.ownsRow_nil _ _ _ _) (World.ownsRow_nil _ _ _ _) (.nil _) (by simp) (by simp)⟩
    · exact absurd (hok.1 ⟨j', m1, hj', m2, m3, m4⟩) hn
  · rcases h' with ⟨hn', rfl, rfl⟩ | ⟨j', hj', m1, m2, m3, m4, rfl, m6⟩
    · exact absurd (hok.2 ⟨j, k1, hj, k2, k3, k4⟩) hn'
    · obtain rfl : j = j' := by omega
      obtain ⟨a1, c1, e1⟩ := own_slice k6
      obtain ⟨a2, c2, e2⟩ := own_slice m6
      have hb := edgX_len (right_ok k3) k4 k2
      have hb' := edgX_len (right_ok m3) m4 m2
      exact ⟨⟨0, rfl, rfl⟩, ⟨_, _, _, e1⟩, ⟨_, _, _, e2⟩, lesser_any _ _ _ _ W m6 k6 (edgX_emb (right_ok k3) k4 k2 hl (fun q h h' => (ho q h' h).lw)) (by omega) (by omega)⟩
end Go.Proofs.YtlmlmhinbkcpoaaDoor
