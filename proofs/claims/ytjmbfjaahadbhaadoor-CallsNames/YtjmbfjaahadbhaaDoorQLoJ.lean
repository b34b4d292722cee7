import Derived.Test.YtjmbfjaahadbhaaDoorQLkJ
import Derived.Test.YtjmbfjaahadbhaaDoorQIhJ
import Derived.Test.YtjmbfjaahadbhaaDoorQNh
import Derived.Test.YtjmbfjaahadbhaaDoorQLcJ
import Derived.Deep.Onto
import Derived.Deep.DeepCutAuto
set_option linter.unusedVariables false
set_option linter.unusedSimpArgs false
namespace Go.Proofs.YtjmbfjaahadbhaaDoor
open Go.RowKit (wrap32 wrap64)

set_option maxRecDepth 100000 in
set_option maxHeartbeats 2000000 in
/-- CopyProgram: what it makes is its own. -/
theorem copyProgramO_any (G : Int) (v : Value) (fs : List PF) (w : World) (hl : FA w v fs) (hn : FineP fs) :
    Calls Tryd.prog 21 #[.agg #[vI G, v]] w fun e w' => ∃ v' L, e = .returned (.agg #[vI G, v']) ∧ FO w' (w.heap.size + 2) v' L ∧ L.map (·.1) = fs ∧ Fr (fun _ => False) w w' := by
  obtain ⟨a1, b1, e1, -⟩ := id hl
  obtain ⟨wa, hwa⟩ : ∃ wa, wa = (w.alloc (.cells #[vI G, v] 24)).alloc (.cells #[vI 0, .slice none 0 0] 24) := ⟨_, rfl⟩
  have hF : Fr (fun _ => False) w wa := by rw [hwa]; exact Fr.alloc (Fr.alloc (Fr.refl _ w) _) _
  have hsz : wa.heap.size = w.heap.size + 2 := by rw [hwa]; simp
  have b1' : wa.heap[w.heap.size]? = some (.cells #[vI G, v] 24) := by
    rw [hwa, Go.RowKit.Below.heap_alloc _ _ _ (by simp)]; exact heap_new w _
  have b2' : wa.heap[w.heap.size + 1]? = some (.cells #[vI 0, .slice none 0 0] 24) := by
    rw [hwa, show w.heap.size + 1 = (w.alloc (.cells #[vI G, v] 24)).heap.size by simp]; exact heap_new _ _
  have HWA : Hd (wa = (w.alloc (.cells #[vI G, v] 24)).alloc (.cells #[vI 0, .slice none 0 0] 24)) := hwa
  have G1 : Hd (FA wa v fs) := hl.stay hF
  have HF : Hd (Fr (fun _ => False) w wa) := hF
  obtain ⟨H, hH⟩ : ∃ H, H = w.heap.size := ⟨_, rfl⟩
  have HH : Hd (H = w.heap.size) := hH
  have HSZ : Hd (wa.heap.size = H + 2) := by rw [hH]; exact hsz
  rw [← hH] at b1' b2'
  have B1 : Hd _ := b1'
  have B2 : Hd _ := b2'
  have p0 : wa.cell? ⟨H, 0, none⟩ = some (vI G) := by rw [cell_of b1']; rfl
  have p1 : wa.cell? ⟨H, 1, none⟩ = some v := by rw [cell_of b1']; rfl
  subst e1
  clear hl hF hsz hwa hH b1' b2'
  go_enter Tryd.func21, Tryd.ntmps21
  go_upto_region 1 with fail
  rw [← HWA.out, ← HH.out]
  clear HWA
  go_region_held3 (fun w' => w'.cell? ⟨H, 0, none⟩ = some (vI G) ∧ w'.cell? ⟨H, 1, none⟩ = some (.slice a1 fs.length b1)) (go_keep) ((
    go_at_call 39
    refine (show Calls Tryd.prog 39 #[.slice a1 fs.length b1] wa.drew _ from copyFuncs_any _ fs wa.drew G1.out hn).mono ?_
    rintro e w2 ⟨x', L, rfl, hx', hL, hF2⟩
    have hG2 : Fr (fun _ => False) wa w2 := (Fr.refl _ wa).drew.trans hF2
    have B1' : w2.heap[H]? = some (.cells #[vI G, .slice a1 fs.length b1] 24) := (hG2.block H (heap_lt B1.out) (fun e => e)).trans B1.out
    have B2' : w2.heap[H + 1]? = some (.cells #[vI 0, .slice none 0 0] 24) := (hG2.block (H + 1) (heap_lt B2.out) (fun e => e)).trans B2.out
    have s0 : w2.cell? ⟨H, 0, none⟩ = some (vI G) := by rw [cell_of B1']; rfl
    have s1 : w2.cell? ⟨H, 1, none⟩ = some (.slice a1 fs.length b1) := by rw [cell_of B1']; rfl
    have d0 : w2.cell? ⟨H + 1, 0, none⟩ = some (vI 0) := by rw [cell_of B2']; rfl
    have d1 : w2.cell? ⟨H + 1, 1, none⟩ = some (.slice none 0 0) := by rw [cell_of B2']; rfl
    have y0 := frozen_of B2' 0
    have y1 := frozen_of B2' 1
    have HX : Hd (FO w2 (H + 2) x' L) := hx'.mono (by have := HSZ.out; show H + 2 ≤ wa.heap.size; omega)
    have HLL : Hd (L.map (·.1) = fs) := hL
    have HF2 : Hd (Fr (fun _ => False) w w2) := HF.out.trans hG2
    have HB2 : Hd (w2.heap[H + 1]? = some (.cells #[vI 0, .slice none 0 0] 24)) := B2'
    obtain ⟨xa, xc, rfl⟩ := hx'.shape
    clear hx' hL hF2 hG2 B1' B2'))
  all_goals
    have HZ : Hd (((w2.setCell ⟨H + 1, 0, none⟩ (vI G)).setCell ⟨H + 1, 1, none⟩ (.slice xa L.length xc)).heap[H + 1]? = some (.cells #[vI G, .slice xa L.length xc] 24)) := set_of (set_of HB2.out 0 _) 1 _
    have fs6 : Fr (fun j => j = H + 1) w2 ((w2.setCell ⟨H + 1, 0, none⟩ (vI G)).setCell ⟨H + 1, 1, none⟩ (.slice xa L.length xc)) := Fr.setCell (S := fun j => j = H + 1) (Fr.setCell (S := fun j => j = H + 1) (Fr.refl _ w2) _ _ (Or.inl rfl)) _ _ (Or.inl rfl)
    have KX : Hd (FO ((w2.setCell ⟨H + 1, 0, none⟩ (vI G)).setCell ⟨H + 1, 1, none⟩ (.slice xa L.length xc)) (w.heap.size + 2) (.slice xa L.length xc) L) := by
      have := HX.out.far fs6 (fun k e => by omega)
      exact this.mono (by have := HH.out; omega)
    have KF : Hd (Fr (fun _ => False) w ((w2.setCell ⟨H + 1, 0, none⟩ (vI G)).setCell ⟨H + 1, 1, none⟩ (.slice xa L.length xc))) := Fr.then HF2.out fs6 (fun j hj e => by have := HH.out; omega)
    clear fs6
    go_wp2_with fail
    generalize (w2.setCell ⟨H + 1, 0, none⟩ (vI G)).setCell ⟨H + 1, 1, none⟩ (.slice xa L.length xc) = wz at *
    have e0 : wz.cell? ⟨H + 1, 0, none⟩ = some (vI G) := by rw [cell_of HZ.out]; rfl
    have e1 : wz.cell? ⟨H + 1, 1, none⟩ = some (.slice xa L.length xc) := by rw [cell_of HZ.out]; rfl
    refine bodyPost_ret (v := .agg #[vI G, .slice xa L.length xc]) ?_ rfl ⟨_, L, rfl, KX.out, HLL.out, KF.out⟩
    rw [results_cell (p := 2) (ty := 24) Tryd.results21]
    simp [go_sem, e0, e1]


theorem flat_set {α : Type} (row : α → List Value) (sz : Nat) (hr : ∀ x, (row x).length = sz) (o : Nat) (ho : o < sz) (u : Value) : ∀ (L : List α) (i : Nat) (h : i < L.length) (y : α), row y = (row L[i]).set o u → (L.set i y).flatMap row = (L.flatMap row).set (i * sz + o) u
  | x :: L, 0, _, y, e => by
    simp only [List.set_cons_zero, List.flatMap_cons, Nat.zero_mul, Nat.zero_add]
    rw [e, List.set_append_left _ _ (by rw [hr]; exact ho)]
    rfl
  | x :: L, i + 1, h, y, e => by
    simp only [List.set_cons_succ, List.flatMap_cons]
    rw [List.set_append_right _ _ (by rw [hr, Nat.add_mul]; omega), hr, show (i + 1) * sz + o - sz = i * sz + o by rw [Nat.add_mul]; omega]
    rw [flat_set row sz hr o ho u L i (by simpa using h) y e]
/-- A call's number is written over. -/
theorem CO.setN {w : World} {B g cap i : Nat} {L : List CI} (h : CO w B (.slice (some ⟨g, 0, none⟩) L.length cap) L) (hi : i < L.length) (z : Int) :
    CO (w.setCell ⟨g, i * 7 + 4, none⟩ (vI z)) B (.slice (some ⟨g, 0, none⟩) L.length cap) (L.set i ({ L[i].1 with n := z }, L[i].2)) ∧ w.frozen? ⟨g, i * 7 + 4, none⟩ = false := by
  obtain ⟨r1, r2⟩ := row_set (j := i * 7 + 4) h.row (vI z)
  refine ⟨⟨?_, fun x hx => ?_⟩, r2⟩
  · rw [List.length_set, flat_set rowI 7 (fun _ => rfl) 4 (by omega) (vI z) L i hi ({ L[i].1 with n := z }, L[i].2) rfl]
    exact r1
  · have fs := setCell_fr w g (i * 7 + 4) (vI z)
    have ke : ∀ y s, IOwn w B y s → IOwn (w.setCell ⟨g, i * 7 + 4, none⟩ (vI z)) B y s := fun y s hy => hy.fr fs (fun j e e2 => own_apart h.row hy (by decide) j e (by rw [e2]; rfl))
    rcases List.mem_or_eq_of_mem_set hx with hx | rfl
    · exact ⟨ke _ _ (h.ints x hx).1, ke _ _ (h.ints x hx).2⟩
    · have := h.ints L[i] (List.getElem_mem hi)
      exact ⟨ke _ _ this.1, ke _ _ this.2⟩
/-- A function is written over. -/
theorem FO.set4 {w : World} {B g cap y : Nat} {L : List FI} (h : FO w B (.slice (some ⟨g, 0, none⟩) L.length cap) L) (hy : y < L.length) (x : FI) (hc : CO w B x.2.1 x.2.2) (hce : x.2.2.map (·.1) = x.1.code) :
    FO (fou4 w g (y * 4) (rowF x)) B (.slice (some ⟨g, 0, none⟩) L.length cap) (L.set y x) ∧ Fr (fun k => k = g) w (fou4 w g (y * 4) (rowF x)) := by
  have hf := fou4_fr w g (y * 4) (rowF x)
  refine ⟨⟨?_, fun u hu => ?_⟩, hf⟩
  · obtain ⟨r1, -⟩ := row_set (j := y * 4) h.row (vI x.1.P)
    obtain ⟨r2, -⟩ := row_set (j := y * 4 + 1) r1 (vI x.1.R)
    obtain ⟨r3, -⟩ := row_set (j := y * 4 + 2) r2 (vI x.1.V)
    obtain ⟨r4, -⟩ := row_set (j := y * 4 + 3) r3 x.2.1
    have e : (L.set y x).flatMap rowF = ((((L.flatMap rowF).set (y * 4) (vI x.1.P)).set (y * 4 + 1) (vI x.1.R)).set (y * 4 + 2) (vI x.1.V)).set (y * 4 + 3) x.2.1 := by
      apply List.ext_getElem?
      intro q
      have hl : (L.flatMap rowF).length = L.length * 4 := flat_len rowF 4 (fun _ => rfl) L
      have hl2 : ((L.set y x).flatMap rowF).length = L.length * 4 := by rw [flat_len rowF 4 (fun _ => rfl), List.length_set]
      by_cases hq : q < L.length * 4
      · obtain ⟨i, o, rfl, ho⟩ : ∃ i o, q = i * 4 + o ∧ o < 4 := ⟨q / 4, q % 4, by omega, by omega⟩
        have hi : i < L.length := by omega
        rw [flat_get rowF 4 (fun _ => rfl) (L.set y x) i o (by rw [List.length_set]; exact hi) ho]
        simp only [List.getElem?_set, List.length_set]
        rw [hl]
        by_cases hiy : y = i
        · subst hiy
          rw [List.getElem_set_self]
          have : o = 0 ∨ o = 1 ∨ o = 2 ∨ o = 3 := by omega
          rcases this with rfl | rfl | rfl | rfl
          · rw [if_neg (by omega), if_neg (by omega), if_neg (by omega), if_pos (by omega), if_pos (by omega)]; rfl
          · rw [if_neg (by omega), if_neg (by omega), if_pos (by omega), if_pos (by omega)]; rfl
          · rw [if_neg (by omega), if_pos (by omega), if_pos (by omega)]; rfl
          · rw [if_pos (by omega), if_pos (by omega)]; rfl
        · rw [List.getElem_set_ne hiy, if_neg (by omega), if_neg (by omega), if_neg (by omega), if_neg (by omega), flat_get rowF 4 (fun _ => rfl) L i o hi ho]
      · rw [List.getElem?_eq_none (by omega), List.getElem?_eq_none (by simp only [List.length_set]; omega)]
    rw [List.length_set, e]
    exact r4
  · have kc : ∀ v Lc, CO w B v Lc → CO (fou4 w g (y * 4) (rowF x)) B v Lc := fun v Lc hv => hv.fr hf (fun k hk e => own_apart h.row hv.row (by decide) k hk (by rw [e]; rfl)) (fun u hu k hk e => by
      rcases hk with hk | hk
      · exact own_apart h.row (hv.ints u hu).1 (by decide) k hk (by rw [e]; rfl)
      · exact own_apart h.row (hv.ints u hu).2 (by decide) k hk (by rw [e]; rfl))
    rcases List.mem_or_eq_of_mem_set hu with hu | rfl
    · exact ⟨kc _ _ (h.code u hu).1, (h.code u hu).2⟩
    · exact ⟨kc _ _ hc, hce⟩
theorem FO.some4 {w : World} {B : Nat} {v : Value} {L : List FI} (h : FO w B v L) (hl : 0 < L.length) : ∃ g cap, v = .slice (some ⟨g, 0, none⟩) L.length cap ∧ B ≤ g ∧ g < w.heap.size := World.ownsRow.form h.row hl
/-- The functions as far as they are numbered otherwise. -/
def rnL (tw : Nat → Nat) (fs : List PF) (k : Nat) (L : List PF) : Prop := L.length = fs.length ∧ ∀ x (h : x < fs.length), x < k → L[tw x]? = some (renF tw fs[x])
theorem rnL_next {tw : Nat → Nat} {fs L : List PF} {k : Nat} (h : rnL tw fs k L) (hk : k < fs.length) (hlt : ∀ x, x < fs.length → tw x < fs.length) (hinj : ∀ x y, x < fs.length → y < fs.length → tw x = tw y → x = y) : rnL tw fs (k + 1) (L.set (tw k) (renF tw fs[k])) := by
  refine ⟨by rw [List.length_set]; exact h.1, fun x hx hxk => ?_⟩
  by_cases e : x = k
  · subst e
    rw [List.getElem?_set_self (by rw [h.1]; exact hlt x hx)]
  · rw [List.getElem?_set_ne (fun e2 => e (hinj k x hk hx e2).symm)]
    exact h.2 x hx (by omega)
theorem rnL_all {tw : Nat → Nat} {fs L : List PF} (h : rnL tw fs fs.length L) (hlt : ∀ x, x < fs.length → tw x < fs.length) (hinj : ∀ x y, x < fs.length → y < fs.length → tw x = tw y → x = y) (hon : ∀ y, y < fs.length → ∃ x, x < fs.length ∧ tw x = y) : RnP tw fs L :=
  ⟨h.1, hlt, hinj, hon, fun x hx => h.2 x hx hx⟩
/-- An order, as a function. -/
theorem perm_fn {l : List Nat} {N : Nat} (h : l.Perm (List.range N)) : ∃ tw : Nat → Nat, l.length = N ∧ (∀ x (hx : x < l.length), l[x] = tw x) ∧ (∀ x, x < N → tw x < N) ∧ (∀ x y, x < N → y < N → tw x = tw y → x = y) ∧ ∀ y, y < N → ∃ x, x < N ∧ tw x = y := by
  have hl : l.length = N := by have := h.length_eq; rwa [List.length_range] at this
  have hnd : l.Nodup := h.symm.nodup List.nodup_range
  have hat : ∀ x (hx : x < l.length), l[x] = l.getD x 0 := fun x hx => by simp [List.getD_eq_getElem?_getD, hx]
  refine ⟨fun x => l.getD x 0, hl, hat, fun x hx => ?_, fun x y hx hy e => ?_, fun y hy => ?_⟩
  · show l.getD x 0 < N
    rw [← hat x (by omega)]
    have := h.mem_iff.1 (List.getElem_mem (l := l) (n := x) (by omega))
    exact List.mem_range.1 this
  · have e2 : l[x]'(by omega) = l[y]'(by omega) := by rw [hat, hat]; exact e
    rcases Nat.lt_trichotomy x y with h1 | h1 | h1
    · exact absurd e2 (List.pairwise_iff_getElem.1 hnd x y (by omega) (by omega) h1)
    · exact h1
    · exact absurd e2.symm (List.pairwise_iff_getElem.1 hnd y x (by omega) (by omega) h1)
  · have : y ∈ l := h.mem_iff.2 (List.mem_range.2 hy)
    obtain ⟨x, hx, e⟩ := List.mem_iff_getElem.1 this
    exact ⟨x, by omega, by show l.getD x 0 = y; rw [← hat x hx]; exact e⟩

def SmC (N : Nat) (cs : List PI) : Prop := cs.length ≤ N ∧ ∀ c ∈ cs, c.args.length ≤ N ∧ c.rets.length ≤ N
theorem SmC.mono {a b : Nat} {cs : List PI} (h : SmC a cs) (hab : a ≤ b) : SmC b cs := ⟨Nat.le_trans h.1 hab, fun c hc => ⟨Nat.le_trans (h.2 c hc).1 hab, Nat.le_trans (h.2 c hc).2 hab⟩⟩

theorem Fr.drewN {S : Nat → Prop} {a w : World} (h : Fr S a w) (n : Nat) : Fr S a (w.drewN n) := ⟨h.os, h.tape, h.output, h.size, h.block⟩
theorem long1_any (n : Nat) (w : World) : Calls Tryd.prog 17 #[vI n] w fun e w' => e = .returned (.bool (decide (2147483647 < n))) ∧ w' = w := by
  go_enter Tryd.func17, Tryd.ntmps17
  go_wp2
  go_ret
  refine ⟨?_, rfl⟩
  congr 2
  simp
  omega

set_option maxRecDepth 100000 in
set_option maxHeartbeats 2000000 in
theorem long_any (G : Int) (fv : Value) (fs : List PF) (w : World) (h : FA w fv fs) (hn : FineP fs) :
    Calls Tryd.prog 16 #[.agg #[vI G, fv]] w fun e w' => ∃ b, e = .returned (.bool b) ∧ Fr (fun _ => False) w w' ∧ (b = false → fs.length ≤ 2147483647 ∧ ∀ f ∈ fs, SmC 2147483647 f.code) := by
  obtain ⟨a1, b1, e1, h0⟩ := h
  have H0 : Hd (fs ≠ [] → _) := h0
  have HFI : Hd (FineP fs) := hn
  have hfl : fs.length ≤ 2932031007317 := hn.1
  obtain ⟨wa, hwa⟩ : ∃ wa, wa = w.alloc (.cells #[vI G, fv] 24) := ⟨_, rfl⟩
  have hF : Fr (fun _ => False) w wa := by rw [hwa]; exact Fr.alloc (Fr.refl _ w) _
  have b1' : wa.heap[w.heap.size]? = some (.cells #[vI G, fv] 24) := by rw [hwa]; exact heap_new w _
  have HWA : Hd (wa = w.alloc (.cells #[vI G, fv] 24)) := hwa
  have HF : Hd (Fr (fun _ => False) w wa) := hF
  obtain ⟨H, hH⟩ : ∃ H, H = w.heap.size := ⟨_, rfl⟩
  have HH : Hd (H = w.heap.size) := hH
  rw [← hH] at b1'
  have B1 : Hd (wa.heap[H]? = some (.cells #[vI G, fv] 24)) := b1'
  have c1 : wa.cell? ⟨H, 1, none⟩ = some fv := by rw [cell_of0 b1']; rfl
  subst e1
  clear hF hwa hH b1' h0 hn
  go_enter Tryd.func16, Tryd.ntmps16
  go_upto_region 1 with fail
  rw [← HWA.out, ← HH.out]
  clear HWA
  go_wp2_with fail
  clear c1
  go_loopw [3, 4] (fun nv v wr => ∃ (n k : Nat), nv = .int .i64 n ∧ v = .int .i64 k ∧ k ≤ fs.length ∧ n ≤ 40000000000000 ∧ Hd (fs.length ≤ n) ∧ Hd (2147483647 < n ∨ ∀ f ∈ fs.take k, SmC n f.code) ∧ Hd (Fr (fun _ => False) wa wr)) (fun _ v _ => match v with | .int _ q => fs.length - q.toNat | _ => 0)
  case atStart => exact ⟨fs.length, 0, rfl, rfl, Nat.zero_le _, by omega, Nat.le_refl _, Or.inr (fun f hf => by simp at hf), Fr.refl _ _⟩
  case round =>
    obtain ⟨n, k, rfl, rfl, hk, hnn, HFN, HS, HFr⟩ := hrel
    have c1 : wr.cell? ⟨H, 1, none⟩ = some (.slice a1 fs.length b1) := by rw [HFr.out.cell (heap_lt B1.out) (fun e => e), cell_of B1.out]; rfl
    by_cases hlt : k < fs.length
    · by_cases hL : n ≤ 2147483647
      · have hdL : decide (2147483647 < n) = false := by simp; omega
        have hk0 : (0 : Int) ≤ k := by omega
        have hk1 : (k : Int) < fs.length := by omega
        obtain ⟨fk, fo, rfl, hfk, hcells⟩ := H0.out (by intro e; simp [e] at hlt)
        obtain ⟨cv, f0, f1, f2, f3, hcv⟩ := hcells k hlt
        have hC : FineC fs[k].code := HFI.out.2 _ (List.getElem_mem hlt)
        have HT : Hd (fs.take (k + 1) = fs.take k ++ [fs[k]]) := by unfold Hd; rw [List.take_add_one, List.getElem?_eq_getElem hlt]; rfl
        have HS2 : Hd (∀ f ∈ fs.take k, SmC n f.code) := by
          rcases HS.out with h | h
          · omega
          · exact h
        have q3 := ((HF.out.trans HFr.out).cell (o := fo + k * 4 + 3) hfk (fun e => e)).trans f3
        generalize fs[k] = f at *
        obtain ⟨ca, cc, rfl, hcc⟩ := hcv
        have HCC : Hd (f.code ≠ [] → _) := hcc
        have HFC : Hd (FineC f.code) := hC
        have hcl : f.code.length ≤ 1599289640354 := hC.1
        have HFO : Hd (∀ wx, Fr (fun _ => False) wa wx → wx.cell? ⟨fk, fo + k * 4 + 3, none⟩ = some (.slice ca f.code.length cc)) := fun wx hx => ((HF.out.trans hx).cell (o := fo + k * 4 + 3) hfk (fun e => e)).trans f3
        clear hcells f0 f1 f2 f3 hcc hC
        go_wp2_with ((refine (show Calls Tryd.prog 17 #[vI (n : Int)] _ _ from long1_any n _).mono ?_; rintro e wl ⟨rfl, rfl⟩))
        clear q3 c1
        obtain ⟨n0, hn0⟩ : ∃ n0, n0 = n := ⟨_, rfl⟩
        have HN0 : Hd (n0 = n) := hn0
        clear hn0
        go_loopw [3, 5] (fun nv v wr => ∃ (m j : Nat), nv = .int .i64 m ∧ v = .int .i64 j ∧ j ≤ f.code.length ∧ m ≤ 40000000000000 ∧ Hd (n ≤ m ∧ f.code.length ≤ m) ∧ Hd (2147483647 < m ∨ ∀ c ∈ f.code.take j, c.args.length ≤ m ∧ c.rets.length ≤ m) ∧ Hd (Fr (fun _ => False) wa wr)) (fun _ v _ => match v with | .int _ q => f.code.length - q.toNat | _ => 0)
        case atStart => exact ⟨n + f.code.length, 0, by simp, rfl, Nat.zero_le _, by omega, ⟨by omega, by omega⟩, Or.inr (fun c hc => by simp at hc), HFr.out⟩
        case round =>
          clear HFr
          obtain ⟨m, j, rfl, rfl, hj, hm, HM, HS3, HFr⟩ := hrel
          have c1 : wr.cell? ⟨H, 1, none⟩ = some (.slice (some ⟨fk, fo, none⟩) fs.length b1) := by rw [HFr.out.cell (heap_lt B1.out) (fun e => e), cell_of B1.out]; rfl
          have q3 := HFO.out wr HFr.out
          have HFN2 : Hd (fs.length ≤ m) := by have := HFN.out; have := HM.out.1; unfold Hd; omega
          by_cases hltj : j < f.code.length
          · by_cases hLm : m ≤ 2147483647
            · have hdm : decide (2147483647 < m) = false := by simp; omega
              have hj0 : (0 : Int) ≤ j := by omega
              have hj1 : (j : Int) < f.code.length := by omega
              obtain ⟨ck, co, rfl, hck, hcs⟩ := HCC.out (by intro e; simp [e] at hltj)
              obtain ⟨av, rv, -, -, -, -, -, p5, p6, ia, ir⟩ := hcs j hltj
              have p5 := ((HF.out.trans HFr.out).cell (o := co + j * 7 + 5) hck (fun e => e)).trans p5
              have p6 := ((HF.out.trans HFr.out).cell (o := co + j * 7 + 6) hck (fun e => e)).trans p6
              have hb := HFC.out.2 _ (List.getElem_mem hltj)
              have HTj : Hd (f.code.take (j + 1) = f.code.take j ++ [f.code[j]]) := by unfold Hd; rw [List.take_add_one, List.getElem?_eq_getElem hltj]; rfl
              have HS4 : Hd (∀ c ∈ f.code.take j, c.args.length ≤ m ∧ c.rets.length ≤ m) := by
                rcases HS3.out with h | h
                · omega
                · exact h
              generalize f.code[j] = c at *
              obtain ⟨aa, ac, rfl, -⟩ := ia
              obtain ⟨ra, rc, rfl, -⟩ := ir
              have HM2 : Hd (n ≤ m + c.args.length + c.rets.length ∧ f.code.length ≤ m + c.args.length + c.rets.length) := by have := HM.out; unfold Hd; omega
              have HS5 : Hd (2147483647 < m + c.args.length + c.rets.length ∨ ∀ x ∈ f.code.take (j + 1), x.args.length ≤ m + c.args.length + c.rets.length ∧ x.rets.length ≤ m + c.args.length + c.rets.length) := by
                right
                intro x hx
                rw [HTj.out] at hx
                rcases List.mem_append.1 hx with hx | hx
                · have := HS4.out x hx; omega
                · simp at hx; subst hx; omega
              have hb1 : c.args.length ≤ 17592186043904 := hb.1
              have hb2 : c.rets.length ≤ 17592186043904 := hb.2
              clear hcs hb HM HS3 HS4
              go_wp2_with ((refine (show Calls Tryd.prog 17 #[vI (m : Int)] _ _ from long1_any m _).mono ?_; rintro e wl ⟨rfl, rfl⟩))
              go_quiet (fail)
              go_wp2_with fail
              exact ⟨⟨m + c.args.length + c.rets.length, j + 1, by simp, by simp, by omega, by omega, HM2.out, HS5.out, HFr.out.drewN _⟩, by simp; omega⟩
            · have hdm : decide (2147483647 < m) = true := by simp; omega
              go_wp2_with ((refine (show Calls Tryd.prog 17 #[vI (m : Int)] _ _ from long1_any m _).mono ?_; rintro e wl ⟨rfl, rfl⟩))
              exact ⟨⟨m, k + 1, rfl, by simp, by omega, hm, HFN2.out, Or.inl (by omega), HFr.out⟩, by simp; omega⟩
          · have HS5 : Hd (2147483647 < m ∨ ∀ x ∈ fs.take (k + 1), SmC m x.code) := by
              rcases HS3.out with h | h
              · exact Or.inl h
              · right
                intro x hx
                rw [HT.out] at hx
                rcases List.mem_append.1 hx with hx | hx
                · exact (HS2.out x hx).mono HM.out.1
                · simp at hx; subst hx
                  exact ⟨HM.out.2, fun c hc => h c (by rw [List.take_of_length_le (by omega)]; exact hc)⟩
            have hdj : decide ((j : Int) < f.code.length) = false := by simp; omega
            go_wp2_with fail
            exact ⟨⟨m, k + 1, rfl, by simp, by omega, hm, HFN2.out, HS5.out, HFr.out⟩, by simp; omega⟩
      · have hdL : decide (2147483647 < n) = true := by simp; omega
        go_wp2_with ((refine (show Calls Tryd.prog 17 #[vI (n : Int)] _ _ from long1_any n _).mono ?_; rintro e wl ⟨rfl, rfl⟩))
        go_ret
        exact ⟨_, rfl, HF.out.trans HFr.out, fun e => by simp at e⟩
    · have HE : Hd (decide (2147483647 < n) = false → fs.length ≤ 2147483647 ∧ ∀ f ∈ fs, SmC 2147483647 f.code) := fun e => by
        have hn' : n ≤ 2147483647 := by simpa using e
        refine ⟨Nat.le_trans HFN.out hn', fun f hf => ?_⟩
        rcases HS.out with h | h
        · omega
        · rw [List.take_of_length_le (by omega)] at h
          exact (h f hf).mono hn'
      go_wp2_with ((refine (show Calls Tryd.prog 17 #[vI (n : Int)] _ _ from long1_any n _).mono ?_; rintro e wl ⟨rfl, rfl⟩))
      go_ret
      exact ⟨_, rfl, HF.out.trans HFr.out, HE.out⟩


/-! ### summaries beyond the bound? -/
end Go.Proofs.YtjmbfjaahadbhaaDoor
