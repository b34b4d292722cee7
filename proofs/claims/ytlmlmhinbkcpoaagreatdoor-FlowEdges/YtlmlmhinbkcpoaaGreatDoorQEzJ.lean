import Derived.Test.YtlmlmhinbkcpoaaGreatDoorQLfJ
import Derived.Deep.RegionHeld3
import Derived.BigQuiet
import Derived.StillTail
import Derived.StillTailTactics
import Derived.Test.YtlmlmhinbkcpoaaGreatDoorQFk
import Derived.Test.YtlmlmhinbkcpoaaGreatDoorQEmJ
import Derived.Test.YtlmlmhinbkcpoaaGreatDoorQEiJ
namespace Go.Proofs.YtlmlmhinbkcpoaaGreatDoor
open Go.RowKit (wrap32 wrap64)
set_option linter.unusedVariables false
set_option linter.unusedSimpArgs false
set_option maxRecDepth 100000
set_option maxHeartbeats 8000000
theorem weight_any (d : Int) (w : World) : Calls Tryz.prog 41 #[vI d] w fun e w' => e = .returned (.bool (derOk d)) ∧ w' = w := by
  go_enter Tryz.func41, Tryz.ntmps41
  by_cases h9 : d = 9
  · have e1 : (d == 9) = true := by simp [h9]
    have HD : Hd (derOk d = true) := by unfold Hd derOk; simp [h9]
    have f1 : decide (d ≥ 0) = true := by simp; omega
    have f2 : decide (0 ≤ d) = true := by simp; omega
    have f3 : decide (d ≤ 3) = false := by simp; omega
    clear h9
    go_wp2_with fail
    go_ret
    exact ⟨by rw [HD.out]; rfl, rfl⟩
  · have e1 : (d == 9) = false := by simp [h9]
    by_cases h0 : 0 ≤ d
    · have f1 : decide (d ≥ 0) = true := by simp; omega
      have f2 : decide (0 ≤ d) = true := by simp; omega
      by_cases h3 : d ≤ 3
      · have f3 : decide (d ≤ 3) = true := by simp; omega
        have HD : Hd (derOk d = true) := by unfold Hd derOk; simp [h0, h3]
        go_wp2_with fail
        go_ret
        exact ⟨by rw [HD.out]; rfl, rfl⟩
      · have f3 : decide (d ≤ 3) = false := by simp; omega
        have HD : Hd (derOk d = false) := by unfold Hd derOk; simp [h9]; omega
        go_wp2_with fail
        go_ret
        exact ⟨by rw [HD.out]; rfl, rfl⟩
    · have f1 : decide (d ≥ 0) = false := by simp; omega
      have f2 : decide (0 ≤ d) = false := by simp; omega
      have HD : Hd (derOk d = false) := by unfold Hd derOk; simp [h9]; omega
      go_wp2_with fail
      go_ret
      exact ⟨by rw [HD.out]; rfl, rfl⟩
theorem measW {i n : Nat} (h : i < n) : n - ((i : Int) + 1).toNat < n - (i : Int).toNat := by omega
theorem castW (i : Nat) : Value.int .i64 ((i : Int) + 1) = Value.int .i64 ((i + 1 : Nat) : Int) := by simp
theorem rright_any (hv rv : Value) (s : PS) (P R V : Int) (ca : Option Addr) (cn cc : Nat) (w : World) (h1 : IA w hv s.H) (h2 : LA w rv s.R) (b1 : s.H.length ≤ 17592186043904) (b2 : s.R.length ≤ 17592186043904) (b3 : ∀ l ∈ s.R, l.length ≤ 17592186043904) :
    Calls Tryz.prog 23 #[.agg #[vI P, vI R, vI V, .slice ca cn cc], .agg #[hv, rv]] w fun e w' => e = .returned (.bool (fitsX s P R)) ∧ Fr (fun _ => False) w w' := by
  obtain ⟨W, hW⟩ : ∃ W, W = (w.alloc (.cells #[vI P, vI R, vI V, .slice ca cn cc] 46)).alloc (.cells #[hv, rv] 43) := ⟨_, rfl⟩
  have HW : Hd (W = (w.alloc (.cells #[vI P, vI R, vI V, .slice ca cn cc] 46)).alloc (.cells #[hv, rv] 43)) := hW
  have hF : Fr (fun _ => False) w W := by rw [hW]; exact Fr.alloc (Fr.alloc (Fr.refl _ w) _) _
  have k1 : W.heap[w.heap.size]? = some (.cells #[vI P, vI R, vI V, .slice ca cn cc] 46) := by
    rw [hW, Go.RowKit.Below.heap_alloc _ _ _ (by simp)]; exact heap_new w _
  have k2 : W.heap[w.heap.size + 1]? = some (.cells #[hv, rv] 43) := by
    have := heap_new (w.alloc (.cells #[vI P, vI R, vI V, .slice ca cn cc] 46)) (.cells #[hv, rv] 43)
    rw [World.size_alloc] at this
    rw [hW]; exact this
  obtain ⟨X, hX⟩ : ∃ X, X = w.heap.size := ⟨_, rfl⟩
  have HX : Hd (X = w.heap.size) := hX
  rw [← hX] at k1 k2
  have H1 : Hd (IA W hv s.H) := h1.stay hF
  have H2 : Hd (LA W rv s.R) := h2.stay hF
  have HF : Hd (Fr (fun _ => False) w W) := hF
  have HB3 : Hd (∀ l ∈ s.R, l.length ≤ 17592186043904) := b3
  obtain ⟨ha, hc, ehv, -⟩ := h1
  obtain ⟨la, lc, erv, -⟩ := h2
  subst ehv erv
  have HC : Hd (∀ wr, Fr (fun _ => False) W wr → wr.cell? ⟨X, 0, none⟩ = some (vI P) ∧ wr.cell? ⟨X, 1, none⟩ = some (vI R) ∧ wr.cell? ⟨X + 1, 0, none⟩ = some (.slice ha s.H.length hc) ∧ wr.cell? ⟨X + 1, 1, none⟩ = some (.slice la s.R.length lc)) := fun wr f => by
    have e1 := (f.block _ (heap_lt k1) (fun h => h)).trans k1
    have e2 := (f.block _ (heap_lt k2) (fun h => h)).trans k2
    exact ⟨by rw [cell_of e1]; rfl, by rw [cell_of e1]; rfl, by rw [cell_of e2]; rfl, by rw [cell_of e2]; rfl⟩
  clear hW hF k1 k2 hX b3
  obtain ⟨c0, c1, d0, d1⟩ := HC.out W (Fr.refl _ _)
  go_enter Tryz.func23, Tryz.ntmps23
  go_upto_region 1 with fail
  rw [← HW.out, ← HX.out]
  clear HW HX
  by_cases hn : (s.H.length : Int) = P
  · have hd1 : ((s.H.length : Int) != P) = false := by simp [hn]
    by_cases hm : (s.R.length : Int) = P
    · have hd2 : ((s.R.length : Int) != P) = false := by simp [hm]
      have HFX : Hd (fitsX s P R = (s.H.all derOk && s.R.all (fun l => dersX l R))) := by unfold Hd fitsX dersX; rw [decide_eq_true hm, decide_eq_true hn]; rfl
      obtain ⟨n, en⟩ : ∃ n, n = s.H.length := ⟨_, rfl⟩
      have HN : Hd (n = s.H.length ∧ n = s.R.length ∧ (n : Int) = P) := ⟨en, by omega, by omega⟩
      have eP : P = (n : Int) := by omega
      subst eP
      clear hn hm en
      go_wp2_with fail
      clear hd1 hd2 c0 c1 d0 d1
      go_loopw [5] (fun v wr => ∃ (k : Nat), v = .int .i64 k ∧ k ≤ n ∧ Hd (Fr (fun _ => False) W wr) ∧ Hd ((s.H.take k).all derOk = true ∧ (s.R.take k).all (fun l => dersX l R) = true)) (fun v _ => match v with | .int _ q => n - q.toNat | _ => 0)
      case atStart => exact ⟨0, rfl, by omega, Fr.refl _ _, ⟨rfl, rfl⟩⟩
      case round =>
        obtain ⟨k, rfl, hk, HFr, HA⟩ := hrel
        obtain ⟨c0, c1, d0, d1⟩ := HC.out wr HFr.out
        by_cases hlt : k < n
        · have hkH : k < s.H.length := by have := HN.out; omega
          have hkR : k < s.R.length := by have := HN.out; omega
          obtain ⟨a', c', e', hhs⟩ := H1.out
          cases e'
          obtain ⟨hg, ho, rfl, hhg, hhs⟩ := hhs (by intro e; rw [e] at hkH; simp at hkH)
          obtain ⟨a', c', e', hls⟩ := H2.out
          cases e'
          obtain ⟨lg, lo, rfl, hlg, hls⟩ := hls (by intro e; rw [e] at hkR; simp at hkR)
          obtain ⟨x, hx1, hx2⟩ := hls k hkR
          have q0 := (HFr.out.cell hhg (fun h => h)).trans (hhs k hkH)
          have q1 := (HFr.out.cell hlg (fun h => h)).trans hx1
          have HIX : Hd (IA W x s.R[k]) := hx2
          have HX1 : Hd (W.cell? ⟨lg, lo + k, none⟩ = some x ∧ lg < W.heap.size) := ⟨hx1, hlg⟩
          have hll := HB3.out s.R[k] (List.getElem_mem hkR)
          have HS1 := all_take_succ s.H derOk k hkH
          have HS2 := all_take_succ s.R (fun l => dersX l R) k hkR
          have HB1 : Hd (derOk s.H[k] = false → fitsX s n R = false) := fun e => by rw [HFX.out, all_bad hkH e]; rfl
          have HB2 : Hd (dersX s.R[k] R = false → fitsX s n R = false) := fun e => by rw [HFX.out, all_bad (p := fun l => dersX l R) hkR e]; simp
          obtain ⟨xa, xc, ex, -⟩ := hx2
          have hk0 : (0 : Int) ≤ k := by omega
          have hk1 : (k : Int) < s.H.length := by omega
          have hk2 : (k : Int) < s.R.length := by omega
          have hk3 : (k : Int) < n := by omega
          clear hhs hls hx1
          generalize s.H[k] = d at *
          generalize s.R[k] = l at *
          subst ex
          go_upto_region 6 with fail
          cases hb : derOk d with
          | false =>
            have HWT : Hd (∀ w', Calls Tryz.prog 41 #[vI d] w' fun e w2 => e = .returned (.bool false) ∧ w2 = w') := fun w' => by have := weight_any d w'; rw [hb] at this; exact this
            have HR := HB1.out hb
            have HR : Hd (fitsX s n R = false) := HR
            clear HS1 HS2 HB1 HB2 hb
            go_quiet ((go_at_call 41; refine Calls.quiet_of_same (HWT.out _)))
            all_goals
              go_wp2_with fail
              go_ret
              exact ⟨by rw [HR.out]; rfl, HF.out.trans ⟨HFr.out.os, HFr.out.tape, HFr.out.output, HFr.out.size, HFr.out.block⟩⟩
          | true =>
            have HWT : Hd (∀ w', Calls Tryz.prog 41 #[vI d] w' fun e w2 => e = .returned (.bool true) ∧ w2 = w') := fun w' => by have := weight_any d w'; rw [hb] at this; exact this
            have HS1' : Hd ((s.H.take (k + 1)).all derOk = true) := by unfold Hd; rw [HS1, HA.out.1, hb]; rfl
            clear HS1 HB1 hb
            by_cases hlR : (l.length : Int) = R
            · have f1 : ((l.length : Int) != R) = false := by simp [hlR]
              obtain ⟨m, em⟩ : ∃ m, m = l.length := ⟨_, rfl⟩
              have HM : Hd (m = l.length ∧ (m : Int) = R) := ⟨em, by omega⟩
              have eR : R = (m : Int) := by omega
              subst eR
              have HDX : Hd (dersX l (m : Int) = l.all derOk) := by unfold Hd dersX; rw [decide_eq_true (by rw [HM.out.1])]; rfl
              clear em hlR
              go_quiet ((go_at_call 41; refine Calls.quiet_of_same (HWT.out _)))
              go_wp2_with fail
              clear f1 c0 c1 d0 d1 q0 q1
              go_loopw [6] (fun v wq => ∃ (j : Nat), v = .int .i64 j ∧ j ≤ m ∧ Hd (Fr (fun _ => False) W wq) ∧ Hd ((l.take j).all derOk = true)) (fun v _ => match v with | .int _ q => m - q.toNat | _ => 0)
              case atStart => exact ⟨0, rfl, by omega, ⟨HFr.out.os, HFr.out.tape, HFr.out.output, HFr.out.size, HFr.out.block⟩, rfl⟩
              case round =>
                obtain ⟨j, rfl, hj, HFq, HAj⟩ := hrel
                obtain ⟨c0, c1, d0, d1⟩ := HC.out wr HFq.out
                have q1 := (HFq.out.cell HX1.out.2 (fun h => h)).trans HX1.out.1
                by_cases hjm : j < m
                · have hjl : j < l.length := by have := HM.out.1; omega
                  obtain ⟨a', c', e', hxs⟩ := HIX.out
                  cases e'
                  obtain ⟨xg, xo, rfl, hxg, hxs⟩ := hxs (by intro e; rw [e] at hjl; simp at hjl)
                  have q2 := (HFq.out.cell hxg (fun h => h)).trans (hxs j hjl)
                  have HT1 := all_take_succ l derOk j hjl
                  have HT2 : Hd (derOk l[j] = false → l.all derOk = false) := fun e => all_bad hjl e
                  have hj0 : (0 : Int) ≤ j := by omega
                  have hj1 : (j : Int) < l.length := by omega
                  have hj2 : (j : Int) < m := by omega
                  clear hxs
                  generalize l[j] = d2 at *
                  cases hb2 : derOk d2 with
                  | false =>
                    have HW2 : Hd (∀ w', Calls Tryz.prog 41 #[vI d2] w' fun e w2 => e = .returned (.bool false) ∧ w2 = w') := fun w' => by have := weight_any d2 w'; rw [hb2] at this; exact this
                    have HR := HB2.out (by rw [HDX.out]; exact HT2.out hb2)
                    have HR : Hd (fitsX s n (m : Int) = false) := HR
                    clear HT1 HT2 hb2 HS2 HB2
                    go_wp2_with fail
                    refine (HW2.out _).mono ?_
                    rintro _ wx ⟨rfl, rfl⟩
                    go_wp2_with fail
                    go_ret
                    exact ⟨by rw [HR.out]; rfl, HF.out.trans HFq.out⟩
                  | true =>
                    have HW2 : Hd (∀ w', Calls Tryz.prog 41 #[vI d2] w' fun e w2 => e = .returned (.bool true) ∧ w2 = w') := fun w' => by have := weight_any d2 w'; rw [hb2] at this; exact this
                    have HT3 : Hd ((l.take (j + 1)).all derOk = true) := by unfold Hd; rw [HT1, HAj.out, hb2]; rfl
                    clear HT1 HT2 hb2 HS2 HB2
                    go_wp2_with fail
                    refine (HW2.out _).mono ?_
                    rintro _ wx ⟨rfl, rfl⟩
                    go_wp2_with fail
                    exact ⟨⟨j + 1, castW j, hjm, HFq, HT3⟩, measW hjm⟩
                · have hdj : decide ((j : Int) < m) = false := by simp; omega
                  have HL : Hd (l.all derOk = true) := by
                    have h := HAj.out
                    rw [List.take_of_length_le (by have := HM.out.1; omega)] at h
                    exact h
                  have HS3 : Hd ((s.R.take (k + 1)).all (fun l => dersX l (m : Int)) = true) := by unfold Hd; rw [HS2, HA.out.2, HDX.out, HL.out]; rfl
                  clear HS2 HB2
                  go_wp2_with fail
                  exact ⟨⟨k + 1, castW k, hlt, HFq, ⟨HS1'.out, HS3.out⟩⟩, measW hlt⟩
            · have f1 : ((l.length : Int) != R) = true := by simp [hlR]
              have HR := HB2.out (by unfold dersX; rw [decide_eq_false hlR]; rfl)
              have HR : Hd (fitsX s n R = false) := HR
              clear HS2 HB2
              go_quiet ((go_at_call 41; refine Calls.quiet_of_same (HWT.out _)))
              all_goals
                go_wp2_with fail
                go_ret
                exact ⟨by rw [HR.out]; rfl, HF.out.trans ⟨HFr.out.os, HFr.out.tape, HFr.out.output, HFr.out.size, HFr.out.block⟩⟩
        · have hdk : decide ((k : Int) < n) = false := by simp; omega
          have HH : Hd (s.H.all derOk = true ∧ s.R.all (fun l => dersX l R) = true) := by
            have h := HA.out
            rw [List.take_of_length_le (by have := HN.out; omega), List.take_of_length_le (by have := HN.out; omega)] at h
            exact h
          go_wp2_with fail
          go_ret
          exact ⟨by rw [HFX.out, HH.out.1, HH.out.2]; rfl, HF.out.trans HFr.out⟩
    · have hd2 : ((s.R.length : Int) != P) = true := by simp [hm]
      have HFX : Hd (fitsX s P R = false) := by unfold Hd fitsX; rw [decide_eq_false hm]; rfl
      go_wp2_with fail
      go_ret
      exact ⟨by rw [HFX.out]; rfl, HF.out⟩
  · have hd1 : ((s.H.length : Int) != P) = true := by simp [hn]
    have HFX : Hd (fitsX s P R = false) := by unfold Hd fitsX dersX; rw [decide_eq_false hn]; simp
    go_wp2_with fail
    go_ret
    exact ⟨by rw [HFX.out]; rfl, HF.out⟩

theorem ede_bad {G : Int} {fs : List PF} {F : Int} {ss : List PS} {w w' : World} (h : ¬ EdgOk G fs F ss) (f : Fr (fun _ => False) w w') : EdgE G fs F ss w (.returned (.tuple #[.slice none 0 0, vI 1])) w' := ⟨f, Or.inl ⟨h, rfl⟩⟩
theorem ede_ok {G : Int} {fs : List PF} {i : Nat} {ss : List PS} {w w' : World} {v : Value} (hi : i < fs.length) (h1 : ss.length = fs.length) (h2 : checkP G (aloneP fs fs[i]) = 0) (h3 : toldX fs ss fs[i].code = true) (ho : EO w' w.heap.size v (edgX ss fs[i])) (f : Fr (fun _ => False) w w') : EdgE G fs i ss w (.returned (.tuple #[v, vI 0])) w' := ⟨f, Or.inr ⟨i, hi, rfl, h1, h2, h3, v, rfl, ho⟩⟩
theorem all_take {α : Type} (l : List α) (p : α → Bool) (k : Nat) (h : k < l.length) : (l.take (k + 1)).all p = ((l.take k).all p && p l[k]) := by
  rw [List.take_succ_eq_append_getElem h, List.all_append]
  simp
def edgK (ss : List PS) (f : PF) (k : Nat) : List Ed := (List.range k).flatMap fun j => edgI ss f.R f.V (clX f.R f.V f.code j) (f.code.getD j dPI)
theorem edgK_succ {ss : List PS} {f : PF} {k : Nat} (h : k < f.code.length) : edgK ss f (k + 1) = edgK ss f k ++ edgI ss f.R f.V (clX f.R f.V f.code k) f.code[k] := by
  unfold edgK
  rw [flat_succ]
  simp [h]
theorem edgK_le {ss : List PS} {f : PF} {k : Nat} (h : k ≤ f.code.length) : (edgK ss f k).length ≤ (edgX ss f).length := flat_mono _ h
theorem EO.at {w : World} {B : Nat} {v : Value} {E : List Ed} (h : EO w B v E) {j : Nat} (hj : j < E.length) : ∃ g cap, v = .slice (some ⟨g, 0, none⟩) E.length cap ∧ B ≤ g ∧ g < w.heap.size ∧ w.cell? ⟨g, j * 3, none⟩ = some (vI E[j].1) ∧ w.cell? ⟨g, j * 3 + 1, none⟩ = some (vI E[j].2.1) ∧ w.cell? ⟨g, j * 3 + 2, none⟩ = some (vI E[j].2.2) := by
  obtain ⟨g, cap, e, hg, x0⟩ := own_cell h (j := j * 3 + 0) (u := vI E[j].1) (by rw [flat_get edC 3 (fun _ => rfl) E j 0 hj (by omega)]; rfl)
  obtain ⟨g1, cap1, e1, -, x1⟩ := own_cell h (j := j * 3 + 1) (u := vI E[j].2.1) (by rw [flat_get edC 3 (fun _ => rfl) E j 1 hj (by omega)]; rfl)
  obtain ⟨g2, cap2, e2, -, x2⟩ := own_cell h (j := j * 3 + 2) (u := vI E[j].2.2) (by rw [flat_get edC 3 (fun _ => rfl) E j 2 hj (by omega)]; rfl)
  subst e
  cases e1
  cases e2
  exact ⟨g, cap, rfl, (World.ownsRow.lt h g rfl).1, hg, x0, x1, x2⟩
theorem redges_any (G : Int) (fv sv : Value) (fs : List PF) (ss : List PS) (F : Int) (w : World) (h1 : FA w fv fs) (h2 : SsA w sv ss) (b1 : FineP fs) (b2 : FineS ss) :
    Calls Tryz.prog 8 #[.agg #[vI G, fv], vI F, sv] w (EdgE G fs F ss w) := by
  obtain ⟨X, hX⟩ : ∃ X, X = w.heap.size := ⟨_, rfl⟩
  have HX : Hd (X = w.heap.size) := hX
  obtain ⟨w1, hw1⟩ : ∃ w1, w1 = w.alloc (.cells #[vI G, fv] 24) := ⟨_, rfl⟩
  have HW1 : Hd (w1 = w.alloc (.cells #[vI G, fv] 24)) := hw1
  have hFa : Fr (fun _ => False) w w1 := by rw [hw1]; exact Fr.alloc (Fr.refl _ w) _
  have k1 : w1.heap[X]? = some (.cells #[vI G, fv] 24) := by rw [hw1, hX]; exact heap_new w _
  have HFa : Hd (Fr (fun _ => False) w w1) := hFa
  have H1 : Hd (∀ W, Fr (fun _ => False) w1 W → FA W fv fs) := fun W f => h1.stay (hFa.trans f)
  have H2 : Hd (∀ W, Fr (fun _ => False) w1 W → SsA W sv ss) := fun W f => h2.stay (hFa.trans f)
  have HB1 : Hd (FineP fs) := b1
  have HB2 : Hd (FineS ss) := b2
  have HP : Hd (∀ W, Fr (fun _ => False) w1 W → W.cell? ⟨X, 0, none⟩ = some (vI G) ∧ W.cell? ⟨X, 1, none⟩ = some fv) := fun W f => by
    have b := (f.block _ (heap_lt k1) (fun h => h)).trans k1
    exact ⟨by rw [cell_of b]; rfl, by rw [cell_of b]; rfl⟩
  have hct := ralone_any G fv fs F w1 (h1.stay hFa) b1
  obtain ⟨c0, c1⟩ := HP.out w1 (Fr.refl _ _)
  obtain ⟨fa, fc, efv, -⟩ := h1
  obtain ⟨sa, sc, esv, -⟩ := h2
  subst efv esv
  clear hw1 hFa k1 hX b1 b2
  go_enter Tryz.func8, Tryz.ntmps8
  go_upto_region 1 with fail
  rw [← HW1.out, ← HX.out]
  clear HW1
  go_wp2_with fail
  refine hct.mono ?_
  rintro e w2 ⟨b, rfl, hb, hF2⟩
  have HF2 : Hd (Fr (fun _ => False) w1 w2) := hF2
  have HFw : Hd (Fr (fun _ => False) w w2) := HFa.out.trans hF2
  clear hct c0 c1 hF2
  obtain ⟨c0, c1⟩ := HP.out w2 HF2.out
  have HAL : Hd (EdgOk G fs F ss → b = true) := fun ⟨i, e, hi, _, k, _⟩ => hb.2 ⟨i, e, hi, (alone_iff G fs fs[i]).1 k⟩
  cases b with
  | false =>
    have HN : Hd (¬ EdgOk G fs F ss) := fun h => by have := HAL.out h; cases this
    clear hb HAL
    go_wp2_with fail
    refine bodyPost_ret (results_tmp2 Tryz.results8 _ _ _) rfl ?_
    exact ede_bad HN.out HFw.out
  | true =>
  obtain ⟨i, rfl, hi, hal⟩ := hb.1 rfl
  have HCK : Hd (checkP G (aloneP fs fs[i]) = 0) := (alone_iff G fs fs[i]).2 hal
  clear hb HAL hal
  by_cases hls : ss.length = fs.length
  · have hd1 : ((ss.length : Int) != (fs.length : Int)) = false := by simp [hls]
    have HLS : Hd (ss.length = fs.length) := hls
    obtain ⟨a', c', e', hff⟩ := H1.out w2 HF2.out
    cases e'
    obtain ⟨fk, fo, efa, hfk, hff⟩ := hff (by intro e; rw [e] at hi; simp at hi)
    obtain ⟨cv, p0, p1, p2, p3, hcv⟩ := hff i hi
    subst efa
    obtain ⟨w3, hw3⟩ : ∃ w3, w3 = w2.alloc (.cells #[vI fs[i].P, vI fs[i].R, vI fs[i].V, cv] 46) := ⟨_, rfl⟩
    have HW3 : Hd (w3 = w2.alloc (.cells #[vI fs[i].P, vI fs[i].R, vI fs[i].V, cv] 46)) := hw3
    have hF3 : Fr (fun _ => False) w2 w3 := by rw [hw3]; exact Fr.alloc (Fr.refl _ w2) _
    obtain ⟨Y, hY⟩ : ∃ Y, Y = w2.heap.size := ⟨_, rfl⟩
    have HY : Hd (Y = w2.heap.size) := hY
    have k3 : w3.heap[Y]? = some (.cells #[vI fs[i].P, vI fs[i].R, vI fs[i].V, cv] 46) := by rw [hw3, hY]; exact heap_new w2 _
    have HF3 : Hd (Fr (fun _ => False) w1 w3) := HF2.out.trans hF3
    have HFz : Hd (Fr (fun _ => False) w w3) := HFa.out.trans HF3.out
    have HCV : Hd (∀ W, Fr (fun _ => False) w3 W → CA W cv fs[i].code) := fun W f => hcv.stay (hF3.trans f)
    have HQ : Hd (∀ W, Fr (fun _ => False) w3 W → W.cell? ⟨Y, 0, none⟩ = some (vI fs[i].P) ∧ W.cell? ⟨Y, 1, none⟩ = some (vI fs[i].R) ∧ W.cell? ⟨Y, 2, none⟩ = some (vI fs[i].V) ∧ W.cell? ⟨Y, 3, none⟩ = some cv) := fun W f => by
      have b := (f.block _ (heap_lt k3) (fun h => h)).trans k3
      exact ⟨by rw [cell_of b]; rfl, by rw [cell_of b]; rfl, by rw [cell_of b]; rfl, by rw [cell_of b]; rfl⟩
    have HFR : Hd (FunR fs fs[i]) := right_ok HCK.out
    have hln : fs[i].code.length ≤ 4096 := HFR.out.len.2
    have HTB : Hd (toldX fs ss fs[i].code = false → ¬ EdgOk G fs i ss) := fun e ⟨q, hq, hqf, _, _, ht⟩ => by
      obtain rfl : i = q := by omega
      rw [e] at ht
      cases ht
    have HEND : Hd (∀ w' v, toldX fs ss fs[i].code = true → EO w' w.heap.size v (edgX ss fs[i]) → Fr (fun _ => False) w w' → EdgE G fs i ss w (.returned (.tuple #[v, vI 0])) w') := fun w' v ht ho f => ede_ok hi HLS.out HCK.out ht ho f
    have hi0 : (0 : Int) ≤ i := by omega
    have hi1 : (i : Int) < fs.length := by omega
    obtain ⟨ca, cc, ecv, -⟩ := hcv
    clear hff hw3 hY k3 hF3 hls
    generalize fs[i] = f at *
    subst ecv
    go_upto_region 5 with fail
    rw [← HW3.out, ← HY.out]
    clear HW3 c0 c1 p0 p1 p2 p3 hd1
    go_wp2_with fail
    go_loopw [11] (fun v wr => ∃ (k : Nat), v = .int .i64 k ∧ k ≤ f.code.length ∧ Hd (Fr (fun _ => False) w3 wr) ∧ Hd ((f.code.take k).all (fitI fs ss) = true)) (fun v _ => match v with | .int _ q => f.code.length - q.toNat | _ => 0)
    case atStart => exact ⟨0, rfl, by omega, Fr.refl _ _, rfl⟩
    case round =>
      obtain ⟨k, rfl, hk, HFr, HT⟩ := hrel
      obtain ⟨r0, r1, r2, r3⟩ := HQ.out wr HFr.out
      obtain ⟨c0, c1⟩ := HP.out wr (HF3.out.trans HFr.out)
      by_cases hlt : k < f.code.length
      · obtain ⟨a', c', e', hcc⟩ := HCV.out wr HFr.out
        cases e'
        obtain ⟨ck, co, rfl, hck, hcc⟩ := hcc (by intro e; rw [e] at hlt; simp at hlt)
        obtain ⟨av, rv, o0, o1, o2, o3, o4, o5, o6, -, -⟩ := hcc k hlt
        have HS := all_take f.code (fitI fs ss) k hlt
        have HBD : Hd (fitI fs ss f.code[k] = false → toldX fs ss f.code = false) := fun e => List.all_eq_false.2 ⟨_, List.getElem_mem hlt, by rw [e]; decide⟩
        have HCL := HFR.out.call f.code[k] (List.getElem_mem hlt)
        have hk0 : (0 : Int) ≤ k := by omega
        have hk1 : (k : Int) < f.code.length := by omega
        clear hcc hck
        generalize f.code[k] = c at *
        by_cases h11 : c.op = 11
        · have hop : (c.op == 11) = true := by simpa using h11
          obtain ⟨q, hq, hqf, -⟩ := HCL h11
          have hqs : q < ss.length := by have := HLS.out; omega
          obtain ⟨a', c', e', hff⟩ := H1.out wr (HF3.out.trans HFr.out)
          cases e'
          obtain ⟨fk', fo', e'', hfk', hff⟩ := hff (by intro e; rw [e] at hqf; simp at hqf)
          cases e''
          obtain ⟨gv, v0, v1, v2, v3, hgv⟩ := hff q hqf
          obtain ⟨ga, gc, egv, -⟩ := hgv
          subst egv
          obtain ⟨a', c', e', hss⟩ := H2.out wr (HF3.out.trans HFr.out)
          cases e'
          obtain ⟨sk, so, rfl, hsk, hss⟩ := hss (by intro e; rw [e] at hqs; simp at hqs)
          obtain ⟨hv, lv, s0, s1, hH, hL⟩ := hss q hqs
          obtain ⟨bs1, bs2, bs3⟩ := HB2.out.2 ss[q] (List.getElem_mem hqs)
          have hct := rright_any hv lv ss[q] fs[q].P fs[q].R fs[q].V ga fs[q].code.length gc wr.drew (hH.stay (Fr.refl (fun _ => False) wr).drew) (hL.stay (Fr.refl (fun _ => False) wr).drew) bs1 (by omega) bs3
          have hfi : fitI fs ss c = fitsX ss[q] fs[q].P fs[q].R := by
            unfold fitI
            rw [if_pos h11, hq]
            simp [hqf, hqs]
          obtain ⟨ha, hc, rfl, -⟩ := hH
          obtain ⟨la, lc, rfl, -⟩ := hL
          rw [hq] at o4
          have hq0 : (0 : Int) ≤ q := by omega
          have hq1 : (q : Int) < fs.length := by omega
          have hq2 : (q : Int) < ss.length := by omega
          rw [hfi] at HS HBD
          clear hff hss bs1 bs2 bs3 hfi HCL hq
          generalize hfx : fitsX ss[q] fs[q].P fs[q].R = fx at *
          clear hfx
          generalize fs[q] = g at *
          generalize ss[q] = s at *
          go_upto_region 9 with fail
          refine wp_region_still_tail 27 mixed (by kernel_rfl) ?_
          simp only [List.take_succ_cons, List.take_zero, List.drop_succ_cons, List.drop_zero]
          repeat still_step
          refine wpStill_nil ?_
          go_wp2_with fail
          refine hct.mono ?_
          rintro _ w6 ⟨rfl, hF6⟩
          have HF6 : Hd (Fr (fun _ => False) w3 w6) := HFr.out.trans (((Fr.refl (fun _ => False) wr).drew).trans hF6)
          clear hct hF6 s0 s1 v0 v1 v2 v3 o0 o1 o2 o3 o4 o5 o6 r0 r1 r2 r3 c0 c1
          cases fx with
          | true =>
            have HT2 : Hd ((f.code.take (k + 1)).all (fitI fs ss) = true) := by unfold Hd; rw [HS, HT.out]; rfl
            clear HS HBD
            go_wp2_with fail
            exact ⟨⟨k + 1, castE k, hlt, HF6, HT2⟩, measE hlt⟩
          | false =>
            have HN : Hd (¬ EdgOk G fs i ss) := HTB.out (HBD.out rfl)
            clear HS HBD
            go_wp2_with fail
            refine bodyPost_ret (results_tmp2 Tryz.results8 _ _ _) rfl ?_
            exact ede_bad HN.out (HFz.out.trans HF6.out)
        · have hop : (c.op == 11) = false := by simpa using h11
          have HT2 : Hd ((f.code.take (k + 1)).all (fitI fs ss) = true) := by
            unfold Hd
            rw [HS, HT.out]
            unfold fitI
            rw [if_neg h11]
            rfl
          clear HS HBD HCL
          go_upto_region 9 with fail
          go_quiet (fail)
          go_wp2_with fail
          exact ⟨⟨k + 1, castE k, hlt, HFr.out.trans ⟨rfl, rfl, rfl, Nat.le_refl _, fun _ _ _ => rfl⟩, HT2⟩, measE hlt⟩
      · have hdk : decide ((k : Int) < f.code.length) = false := by simp; omega
        have HTD : Hd (toldX fs ss f.code = true) := by
          have h := HT.out
          rw [List.take_of_length_le (by omega)] at h
          exact h
        have HXL : Hd ((edgX ss f).length ≤ 163840) := edgX_len HFR.out HTD.out HLS.out
        obtain ⟨i7, hi7, hz7, hs7, hb7⟩ := info_parts (P := Tryz.prog) (e := 51) (z := .agg #[vI 0, vI 0, vI 0]) (size := 3) (bytes := 24) (by kernel_rfl)
        clear hk HT
        go_wp2_with fail
        clear r0 r1 r2 r3 c0 c1 hdk
        go_loopw [10, 12] (fun v10 v12 wq => ∃ (k : Nat), v12 = .int .i64 k ∧ k ≤ f.code.length ∧ Hd (EO wq w3.heap.size v10 (edgK ss f k)) ∧ Hd (Fr (fun _ => False) w3 wq)) (fun _ v _ => match v with | .int _ q => f.code.length - q.toNat | _ => 0)
        case atStart => exact ⟨0, rfl, by omega, EO.nil _ _, HFr⟩
        case round =>
          obtain ⟨k, rfl, hk, HE, HFq⟩ := hrel
          obtain ⟨r0, r1, r2, r3⟩ := HQ.out wr HFq.out
          by_cases hlt : k < f.code.length
          · have hct := rins_any fs f (.slice ca f.code.length cc) k (.slice sa ss.length sc) ss wr (HCV.out wr HFq.out) (H2.out wr (HF3.out.trans HFq.out)) HFR.out HTD.out HLS.out HB2.out hlt
            have HKS : Hd (edgK ss f (k + 1) = edgK ss f k ++ edgI ss f.R f.V (clX f.R f.V f.code k) f.code[k]) := edgK_succ hlt
            have HKL : Hd ((edgK ss f (k + 1)).length ≤ 163840) := by
              have h1 := @edgK_le ss f (k + 1) hlt
              have h2 := HXL.out
              unfold Hd
              omega
            have hk0 : (0 : Int) ≤ k := by omega
            have hk1 : (k : Int) < f.code.length := by omega
            generalize edgI ss f.R f.V (clX f.R f.V f.code k) f.code[k] = Em at *
            go_wp2_with fail
            refine hct.mono ?_
            rintro _ w5 ⟨vm, rfl, hO, hF5⟩
            have HO : Hd (EO w5 wr.heap.size vm Em) := hO
            have HE5 : Hd (EO w5 w3.heap.size u10 (edgK ss f k)) := HE.out.stay hF5
            have HF5 : Hd (Fr (fun _ => False) w3 w5) := HFq.out.trans hF5
            have HAP : Hd (∀ g, u10.ownBlock = some g → vm.ownBlock ≠ some g) := fun g e e2 => by
              have h1 := (World.ownsRow.lt HE.out g e).2
              have h2 := (World.ownsRow.lt hO g e2).1
              omega
            have HLE : Hd ((edgK ss f k).length + Em.length ≤ 163840) := by have h := HKL.out; rw [HKS.out, List.length_append] at h; exact h
            obtain ⟨ma, mc, em⟩ := own_slice hO
            subst em
            have hml : Em.length ≤ 163840 := by have := HLE.out; omega
            clear hct hO hF5 r0 r1 r2 r3 HE HFq
            go_wp2_with fail
            go_loopw [10, 14] (fun v10 v14 wq => ∃ (j : Nat), v14 = .int .i64 j ∧ j ≤ Em.length ∧ Hd (EO wq w3.heap.size v10 (edgK ss f k ++ Em.take j)) ∧ Hd (∃ B, EO wq B (.slice ma Em.length mc) Em) ∧ Hd (∀ g, v10.ownBlock = some g → (Value.slice ma Em.length mc).ownBlock ≠ some g) ∧ Hd (Fr (fun _ => False) w3 wq)) (fun _ v _ => match v with | .int _ q => Em.length - q.toNat | _ => 0)
            case atStart => exact ⟨0, rfl, by omega, by rw [List.take_zero, List.append_nil]; exact HE5, ⟨_, HO.out⟩, HAP, HF5⟩
            case round =>
              obtain ⟨j, rfl, hj, HE, HM, HAP, HFq⟩ := hrel
              by_cases hjl : j < Em.length
              · obtain ⟨B, hM⟩ := HM.out
                obtain ⟨mb, cap', e1, -, hmb, x0, x1, x2⟩ := hM.at hjl
                injection e1 with e1 e2 e3
                subst e1 e3
                have HTK : Hd (edgK ss f k ++ Em.take (j + 1) = (edgK ss f k ++ Em.take j) ++ [(Em[j].1, Em[j].2.1, Em[j].2.2)]) := by
                  unfold Hd
                  rw [List.take_succ_eq_append_getElem hjl, List.append_assoc]
                have HL3 : Hd ((edgK ss f k ++ Em.take j).length ≤ 163840) := by
                  have h := HLE.out
                  unfold Hd
                  rw [List.length_append, List.length_take]
                  omega
                have HMM : Hd (EO wr B (.slice (some ⟨mb, 0, none⟩) Em.length mc) Em ∧ mb < wr.heap.size) := ⟨hM, hmb⟩
                generalize Em[j].1 = d0 at *
                generalize Em[j].2.1 = d1 at *
                generalize Em[j].2.2 = d2 at *
                generalize edgK ss f k ++ Em.take j = E at *
                obtain ⟨ea, ec, ee⟩ := own_slice HE.out
                subst ee
                have HFn : Hd (Fr (fun _ => False) wr (wr.alloc (.cells #[vI d0, vI d1, vI d2] 51))) := Fr.alloc (Fr.refl _ wr) _
                have HRW : Hd ((wr.alloc (.cells #[vI d0, vI d1, vI d2] 51)).ownsRow w3.heap.size 51 3 (.slice ea E.length ec) E.length (E.flatMap edC)) := HE.out.stay HFn.out
                have hnews : ∀ j u, [vI d0, vI d1, vI d2][j]? = some u → (wr.alloc (.cells #[vI d0, vI d1, vI d2] 51)).cell? ((⟨wr.heap.size, 0, none⟩ : Addr).add j) = some u :=
                  World.news_of_block (cs := #[vI d0, vI d1, vI d2]) (heap_new wr _)
                have hbase : w3.heap.size ≤ (wr.alloc (.cells #[vI d0, vI d1, vI d2] 51)).heap.size := (HFq.out.trans HFn.out).size
                have hel := HL3.out
                have hj0 : (0 : Int) ≤ j := by omega
                have hj1 : (j : Int) < Em.length := by omega
                clear hM hmb HM
                go_wp2_with ((at_builtin; refine Hd.out ?_))
                unfold Hd
                refine wpList_append_lies _ rfl (.tmp 87) (.tmp 92) 31 rfl w3.heap.size 51 i7 (.agg #[vI 0, vI 0, vI 0]) 3 24 under36 hi7 hz7 hs7 hb7 rfl (by omega) (.slice ea E.length ec) E.length _ rfl HRW.out ⟨wr.heap.size, 0, none⟩ 1 1 [vI d0, vI d1, vI d2] rfl rfl hnews (by intro u hu; simp at hu; rcases hu with rfl | rfl | rfl <;> rfl) (by omega) (by unfold maxLen; omega) (by omega) hbase (wr.heap.size + 1) (by simp) ?_
                intro g6 cap6 w6 hown6 hgrow6 hat6 hlt6
                obtain ⟨o1, o2⟩ := EO.grow (x := (d0, d1, d2)) HE.out HFn.out hgrow6 hown6 HFq.out (Nat.le_refl _)
                have HQ1 : Hd (EO w6 w3.heap.size (.slice (some ⟨g6, 0, none⟩) (E.length + 1) cap6) (edgK ss f k ++ Em.take (j + 1))) := by unfold Hd; rw [HTK.out]; exact o1
                have HQ2 : Hd (Fr (fun _ => False) w3 w6) := o2
                have HQ3 : Hd (∃ B, EO w6 B (.slice (some ⟨mb, 0, none⟩) Em.length mc) Em) := ⟨B, ownsRow_frL (HMM.out.1.stay HFn.out) (grown_frL hgrow6) (fun g e e2 => HAP.out g e2 e)⟩
                have HQ4 : Hd (∀ g, (Value.slice (some ⟨g6, 0, none⟩) (E.length + 1) cap6).ownBlock = some g → (Value.slice (some ⟨mb, 0, none⟩) Em.length mc).ownBlock ≠ some g) := fun g e e2 => by
                  have e : some g6 = some g := e
                  have e := Option.some.inj e
                  subst e
                  rcases hat6 with h | h
                  · exact HAP.out g6 h e2
                  · have e2 : some mb = some g6 := e2
                    have e2 := Option.some.inj e2
                    have := HMM.out.2
                    omega
                clear hown6 hgrow6 hat6 hlt6 o1 o2 hnews hbase HRW x0 x1 x2
                go_wp2_with fail
                exact ⟨⟨j + 1, castE j, hjl, HQ1, HQ3, HQ4, HQ2⟩, measE hjl⟩
              · have hdj : decide ((j : Int) < Em.length) = false := by simp; omega
                have HQ1 : Hd (EO wr w3.heap.size u10 (edgK ss f (k + 1))) := by
                  have h := HE.out
                  rw [List.take_of_length_le (by omega), ← HKS.out] at h
                  exact h
                go_wp2_with fail
                exact ⟨⟨k + 1, castE k, hlt, HQ1, HFq⟩, measE hlt⟩
          · have hdk : decide ((k : Int) < f.code.length) = false := by simp; omega
            have hke : k = f.code.length := by omega
            have HQ1 : Hd (EO wr w.heap.size u10 (edgX ss f)) := by
              have h : EO wr w.heap.size u10 (edgK ss f k) := World.ownsRow.mono HE.out HFz.out.size
              rw [hke] at h
              exact h
            clear hke
            go_wp2_with fail
            refine bodyPost_ret (results_tmp2 Tryz.results8 _ _ _) rfl ?_
            exact HEND.out _ _ HTD.out HQ1.out (HFz.out.trans HFq.out)
  · have hd1 : ((ss.length : Int) != (fs.length : Int)) = true := by simp; omega
    have HN : Hd (¬ EdgOk G fs i ss) := fun ⟨_, _, _, h, _⟩ => hls h
    go_wp2_with fail
    refine bodyPost_ret (results_tmp2 Tryz.results8 _ _ _) rfl ?_
    exact ede_bad HN.out HFw.out
end Go.Proofs.YtlmlmhinbkcpoaaGreatDoor
