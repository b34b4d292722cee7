import Derived.Test.YtlmlmhinbkcpoaaDoorQEbJ
import Derived.Deep.RegionHeld3
import Derived.BigQuiet
import Derived.StillTail
import Derived.StillTailTactics
namespace Go.Proofs.YtlmlmhinbkcpoaaDoor
open Go.RowKit (wrap32 wrap64)
set_option linter.unusedVariables false
set_option linter.unusedSimpArgs false

set_option maxRecDepth 100000 in
set_option maxHeartbeats 1000000 in
theorem weight_any (d : Int) (w : World) : Calls Tryd.prog 49 #[vI d] w fun e w' => e = .returned (.bool (derOk d)) ∧ w' = w := by
  go_enter Tryd.func49, Tryd.ntmps49
  by_cases h9 : d = 9
  · have e1 : (d == 9) = true := by simp [h9]
    have HD : Hd (derOk d = true) := by unfold Hd derOk; simp [h9]
    have f1 : decide (d ≥ 0) = true := by simp; omega
    have f2 : decide (0 ≤ d) = true := by simp; omega
    have f3 : decide (d ≤ 3) = false := by simp; omega
    clear h9
    go_wp2_with fail
    go_ret
    exact ⟨by rw [HD.out]; rfl, rfl⟩
  · have e1 : (d == 9) = false := by simp [h9]
    by_cases h0 : 0 ≤ d
    · have f1 : decide (d ≥ 0) = true := by simp; omega
      have f2 : decide (0 ≤ d) = true := by simp; omega
      by_cases h3 : d ≤ 3
      · have f3 : decide (d ≤ 3) = true := by simp; omega
        have HD : Hd (derOk d = true) := by unfold Hd derOk; simp [h0, h3]
        go_wp2_with fail
        go_ret
        exact ⟨by rw [HD.out]; rfl, rfl⟩
      · have f3 : decide (d ≤ 3) = false := by simp; omega
        have HD : Hd (derOk d = false) := by unfold Hd derOk; simp [h9]; omega
        go_wp2_with fail
        go_ret
        exact ⟨by rw [HD.out]; rfl, rfl⟩
    · have f1 : decide (d ≥ 0) = false := by simp; omega
      have f2 : decide (0 ≤ d) = false := by simp; omega
      have HD : Hd (derOk d = false) := by unfold Hd derOk; simp [h9]; omega
      go_wp2_with fail
      go_ret
      exact ⟨by rw [HD.out]; rfl, rfl⟩

theorem measW {i n : Nat} (h : i < n) : n - ((i : Int) + 1).toNat < n - (i : Int).toNat := by omega
theorem castW (i : Nat) : Value.int .i64 ((i : Int) + 1) = Value.int .i64 ((i + 1 : Nat) : Int) := by simp

set_option maxRecDepth 100000 in
set_option maxHeartbeats 4000000 in
/-- The document's Right. -/
theorem rright_any (hv rv : Value) (s : PS) (P R V : Int) (ca : Option Addr) (cn cc : Nat) (w : World) (h1 : IA w hv s.H) (h2 : LA w rv s.R) (b1 : s.H.length ≤ 17592186043904) (b2 : s.R.length ≤ 17592186043904) (b3 : ∀ l ∈ s.R, l.length ≤ 17592186043904) :
    Calls Tryd.prog 36 #[.agg #[vI P, vI R, vI V, .slice ca cn cc], .agg #[hv, rv]] w fun e w' => e = .returned (.bool (fitsX s P R)) ∧ Fr (fun _ => False) w w' := by
  obtain ⟨W, hW⟩ : ∃ W, W = (w.alloc (.cells #[vI P, vI R, vI V, .slice ca cn cc] 30)).alloc (.cells #[hv, rv] 34) := ⟨_, rfl⟩
  have HW : Hd (W = (w.alloc (.cells #[vI P, vI R, vI V, .slice ca cn cc] 30)).alloc (.cells #[hv, rv] 34)) := hW
  have hF : Fr (fun _ => False) w W := by rw [hW]; exact Fr.alloc (Fr.alloc (Fr.refl _ w) _) _
  have k1 : W.heap[w.heap.size]? = some (.cells #[vI P, vI R, vI V, .slice ca cn cc] 30) := by
    rw [hW, Go.RowKit.Below.heap_alloc _ _ _ (by simp)]; exact heap_new w _
  have k2 : W.heap[w.heap.size + 1]? = some (.cells #[hv, rv] 34) := by
    have := heap_new (w.alloc (.cells #[vI P, vI R, vI V, .slice ca cn cc] 30)) (.cells #[hv, rv] 34)
    rw [World.size_alloc] at this
    rw [hW]; exact this
  obtain ⟨X, hX⟩ : ∃ X, X = w.heap.size := ⟨_, rfl⟩
  have HX : Hd (X = w.heap.size) := hX
  rw [← hX] at k1 k2
  have H1 : Hd (IA W hv s.H) := h1.stay hF
  have H2 : Hd (LA W rv s.R) := h2.stay hF
  have HF : Hd (Fr (fun _ => False) w W) := hF
  have HB3 : Hd (∀ l ∈ s.R, l.length ≤ 17592186043904) := b3
  obtain ⟨ha, hc, ehv, -⟩ := h1
  obtain ⟨la, lc, erv, -⟩ := h2
  subst ehv erv
  have HC : Hd (∀ wr, Fr (fun _ => False) W wr → wr.cell? ⟨X, 0, none⟩ = some (vI P) ∧ wr.cell? ⟨X, 1, none⟩ = some (vI R) ∧ wr.cell? ⟨X + 1, 0, none⟩ = some (.slice ha s.H.length hc) ∧ wr.cell? ⟨X + 1, 1, none⟩ = some (.slice la s.R.length lc)) := fun wr f => by
    have e1 := (f.block _ (heap_lt k1) (fun h => h)).trans k1
    have e2 := (f.block _ (heap_lt k2) (fun h => h)).trans k2
    exact ⟨by rw [cell_of e1]; rfl, by rw [cell_of e1]; rfl, by rw [cell_of e2]; rfl, by rw [cell_of e2]; rfl⟩
  clear hW hF k1 k2 hX b3
  obtain ⟨c0, c1, d0, d1⟩ := HC.out W (Fr.refl _ _)
  go_enter Tryd.func36, Tryd.ntmps36
  go_upto_region 1 with fail
  rw [← HW.out, ← HX.out]
  clear HW HX
  by_cases hn : (s.H.length : Int) = P
  · have hd1 : ((s.H.length : Int) != P) = false := by simp [hn]
    by_cases hm : (s.R.length : Int) = P
    · have hd2 : ((s.R.length : Int) != P) = false := by simp [hm]
      have HFX : Hd (fitsX s P R = (s.H.all derOk && s.R.all (fun l => dersX l R))) := by unfold Hd fitsX dersX; rw [decide_eq_true hm, decide_eq_true hn]; rfl
      obtain ⟨n, en⟩ : ∃ n, n = s.H.length := ⟨_, rfl⟩
      have HN : Hd (n = s.H.length ∧ n = s.R.length ∧ (n : Int) = P) := ⟨en, by omega, by omega⟩
      have eP : P = (n : Int) := by omega
      subst eP
      clear hn hm en
      go_wp2_with fail
      clear hd1 hd2 c0 c1 d0 d1
      go_loopw [5] (fun v wr => ∃ (k : Nat), v = .int .i64 k ∧ k ≤ n ∧ Hd (Fr (fun _ => False) W wr) ∧ Hd ((s.H.take k).all derOk = true ∧ (s.R.take k).all (fun l => dersX l R) = true)) (fun v _ => match v with | .int _ q => n - q.toNat | _ => 0)
      case atStart => exact ⟨0, rfl, by omega, Fr.refl _ _, ⟨rfl, rfl⟩⟩
      case round =>
        obtain ⟨k, rfl, hk, HFr, HA⟩ := hrel
        obtain ⟨c0, c1, d0, d1⟩ := HC.out wr HFr.out
        by_cases hlt : k < n
        · have hkH : k < s.H.length := by have := HN.out; omega
          have hkR : k < s.R.length := by have := HN.out; omega
          obtain ⟨a', c', e', hhs⟩ := H1.out
          cases e'
          obtain ⟨hg, ho, rfl, hhg, hhs⟩ := hhs (by intro e; rw [e] at hkH; simp at hkH)
          obtain ⟨a', c', e', hls⟩ := H2.out
          cases e'
          obtain ⟨lg, lo, rfl, hlg, hls⟩ := hls (by intro e; rw [e] at hkR; simp at hkR)
          obtain ⟨x, hx1, hx2⟩ := hls k hkR
          have q0 := (HFr.out.cell hhg (fun h => h)).trans (hhs k hkH)
          have q1 := (HFr.out.cell hlg (fun h => h)).trans hx1
          have HIX : Hd (IA W x s.R[k]) := hx2
          have HX1 : Hd (W.cell? ⟨lg, lo + k, none⟩ = some x ∧ lg < W.heap.size) := ⟨hx1, hlg⟩
          have hll := HB3.out s.R[k] (List.getElem_mem hkR)
          have HS1 := all_take_succ s.H derOk k hkH
          have HS2 := all_take_succ s.R (fun l => dersX l R) k hkR
          have HB1 : Hd (derOk s.H[k] = false → fitsX s n R = false) := fun e => by rw [HFX.out, all_bad hkH e]; rfl
          have HB2 : Hd (dersX s.R[k] R = false → fitsX s n R = false) := fun e => by rw [HFX.out, all_bad (p := fun l => dersX l R) hkR e]; simp
          obtain ⟨xa, xc, ex, -⟩ := hx2
          have hk0 : (0 : Int) ≤ k := by omega
          have hk1 : (k : Int) < s.H.length := by omega
          have hk2 : (k : Int) < s.R.length := by omega
          have hk3 : (k : Int) < n := by omega
          clear hhs hls hx1
          generalize s.H[k] = d at *
          generalize s.R[k] = l at *
          subst ex
          go_upto_region 6 with fail
          cases hb : derOk d with
          | false =>
            have HWT : Hd (∀ w', Calls Tryd.prog 49 #[vI d] w' fun e w2 => e = .returned (.bool false) ∧ w2 = w') := fun w' => by have := weight_any d w'; rw [hb] at this; exact this
            have HR := HB1.out hb
            have HR : Hd (fitsX s n R = false) := HR
            clear HS1 HS2 HB1 HB2 hb
            go_quiet ((go_at_call 49; refine Calls.quiet_of_same (HWT.out _)))
            all_goals
              go_wp2_with fail
              go_ret
              exact ⟨by rw [HR.out]; rfl, HF.out.trans ⟨HFr.out.os, HFr.out.tape, HFr.out.output, HFr.out.size, HFr.out.block⟩⟩
          | true =>
            have HWT : Hd (∀ w', Calls Tryd.prog 49 #[vI d] w' fun e w2 => e = .returned (.bool true) ∧ w2 = w') := fun w' => by have := weight_any d w'; rw [hb] at this; exact this
            have HS1' : Hd ((s.H.take (k + 1)).all derOk = true) := by unfold Hd; rw [HS1, HA.out.1, hb]; rfl
            clear HS1 HB1 hb
            by_cases hlR : (l.length : Int) = R
            · have f1 : ((l.length : Int) != R) = false := by simp [hlR]
              obtain ⟨m, em⟩ : ∃ m, m = l.length := ⟨_, rfl⟩
              have HM : Hd (m = l.length ∧ (m : Int) = R) := ⟨em, by omega⟩
              have eR : R = (m : Int) := by omega
              subst eR
              have HDX : Hd (dersX l (m : Int) = l.all derOk) := by unfold Hd dersX; rw [decide_eq_true (by rw [HM.out.1])]; rfl
              clear em hlR
              go_quiet ((go_at_call 49; refine Calls.quiet_of_same (HWT.out _)))
              go_wp2_with fail
              clear f1 c0 c1 d0 d1 q0 q1
              go_loopw [6] (fun v wq => ∃ (j : Nat), v = .int .i64 j ∧ j ≤ m ∧ Hd (Fr (fun _ => False) W wq) ∧ Hd ((l.take j).all derOk = true)) (fun v _ => match v with | .int _ q => m - q.toNat | _ => 0)
              case atStart => exact ⟨0, rfl, by omega, ⟨HFr.out.os, HFr.out.tape, HFr.out.output, HFr.out.size, HFr.out.block⟩, rfl⟩
              case round =>
                obtain ⟨j, rfl, hj, HFq, HAj⟩ := hrel
                obtain ⟨c0, c1, d0, d1⟩ := HC.out wr HFq.out
                have q1 := (HFq.out.cell HX1.out.2 (fun h => h)).trans HX1.out.1
                by_cases hjm : j < m
                · have hjl : j < l.length := by have := HM.out.1; omega
                  obtain ⟨a', c', e', hxs⟩ := HIX.out
                  cases e'
                  obtain ⟨xg, xo, rfl, hxg, hxs⟩ := hxs (by intro e; rw [e] at hjl; simp at hjl)
                  have q2 := (HFq.out.cell hxg (fun h => h)).trans (hxs j hjl)
                  have HT1 := all_take_succ l derOk j hjl
                  have HT2 : Hd (derOk l[j] = false → l.all derOk = false) := fun e => all_bad hjl e
                  have hj0 : (0 : Int) ≤ j := by omega
                  have hj1 : (j : Int) < l.length := by omega
                  have hj2 : (j : Int) < m := by omega
                  clear hxs
                  generalize l[j] = d2 at *
                  cases hb2 : derOk d2 with
                  | false =>
                    have HW2 : Hd (∀ w', Calls Tryd.prog 49 #[vI d2] w' fun e w2 => e = .returned (.bool false) ∧ w2 = w') := fun w' => by have := weight_any d2 w'; rw [hb2] at this; exact this
                    have HR := HB2.out (by rw [HDX.out]; exact HT2.out hb2)
                    have HR : Hd (fitsX s n (m : Int) = false) := HR
                    clear HT1 HT2 hb2 HS2 HB2
                    go_wp2_with fail
                    refine (HW2.out _).mono ?_
                    rintro _ wx ⟨rfl, rfl⟩
                    go_wp2_with fail
                    go_ret
                    exact ⟨by rw [HR.out]; rfl, HF.out.trans HFq.out⟩
                  | true =>
                    have HW2 : Hd (∀ w', Calls Tryd.prog 49 #[vI d2] w' fun e w2 => e = .returned (.bool true) ∧ w2 = w') := fun w' => by have := weight_any d2 w'; rw [hb2] at this; exact this
                    have HT3 : Hd ((l.take (j + 1)).all derOk = true) := by unfold Hd; rw [HT1, HAj.out, hb2]; rfl
                    clear HT1 HT2 hb2 HS2 HB2
                    go_wp2_with fail
                    refine (HW2.out _).mono ?_
                    rintro _ wx ⟨rfl, rfl⟩
                    go_wp2_with fail
                    exact ⟨⟨j + 1, castW j, hjm, HFq, HT3⟩, measW hjm⟩
                · have hdj : decide ((j : Int) < m) = false := by simp; omega
                  have HL : Hd (l.all derOk = true) := by
                    have h := HAj.out
                    rw [List.take_of_length_le (by have := HM.out.1; omega)] at h
                    exact h
                  have HS3 : Hd ((s.R.take (k + 1)).all (fun l => dersX l (m : Int)) = true) := by unfold Hd; rw [HS2, HA.out.2, HDX.out, HL.out]; rfl
                  clear HS2 HB2
                  go_wp2_with fail
                  exact ⟨⟨k + 1, castW k, hlt, HFq, ⟨HS1'.out, HS3.out⟩⟩, measW hlt⟩
            · have f1 : ((l.length : Int) != R) = true := by simp [hlR]
              have HR := HB2.out (by unfold dersX; rw [decide_eq_false hlR]; rfl)
              have HR : Hd (fitsX s n R = false) := HR
              clear HS2 HB2
              go_quiet ((go_at_call 49; refine Calls.quiet_of_same (HWT.out _)))
              all_goals
                go_wp2_with fail
                go_ret
                exact ⟨by rw [HR.out]; rfl, HF.out.trans ⟨HFr.out.os, HFr.out.tape, HFr.out.output, HFr.out.size, HFr.out.block⟩⟩
        · have hdk : decide ((k : Int) < n) = false := by simp; omega
          have HH : Hd (s.H.all derOk = true ∧ s.R.all (fun l => dersX l R) = true) := by
            have h := HA.out
            rw [List.take_of_length_le (by have := HN.out; omega), List.take_of_length_le (by have := HN.out; omega)] at h
            exact h
          go_wp2_with fail
          go_ret
          exact ⟨by rw [HFX.out, HH.out.1, HH.out.2]; rfl, HF.out.trans HFr.out⟩
    · have hd2 : ((s.R.length : Int) != P) = true := by simp [hm]
      have HFX : Hd (fitsX s P R = false) := by unfold Hd fitsX; rw [decide_eq_false hm]; rfl
      go_wp2_with fail
      go_ret
      exact ⟨by rw [HFX.out]; rfl, HF.out⟩
  · have hd1 : ((s.H.length : Int) != P) = true := by simp [hn]
    have HFX : Hd (fitsX s P R = false) := by unfold Hd fitsX dersX; rw [decide_eq_false hn]; simp
    go_wp2_with fail
    go_ret
    exact ⟨by rw [HFX.out]; rfl, HF.out⟩
end Go.Proofs.YtlmlmhinbkcpoaaDoor

namespace Go.Proofs.YtlmlmhinbkcpoaaDoor
open Go.RowKit (wrap32 wrap64)
set_option linter.unusedVariables false
set_option linter.unusedSimpArgs false

end Go.Proofs.YtlmlmhinbkcpoaaDoor
