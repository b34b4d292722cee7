import Derived.Test.YtlmlmhinbkcpoaaGreatDoorQLlJ
import Derived.Test.YtlmlmhinbkcpoaaGreatDoorQLfJ
namespace Go.Proofs.YtlmlmhinbkcpoaaGreatDoor
open Go.RowKit (wrap32 wrap64)
set_option linter.unusedVariables false
set_option linter.unusedSimpArgs false
set_option maxRecDepth 100000
set_option maxHeartbeats 8000000
theorem eqLists_same (v1 v2 : Value) (ls : List (List Int)) (w : World) (h1 : LA w v1 ls) (h2 : LA w v2 ls) (hn : ls.length ≤ 5864062014634) (hll : ∀ l ∈ ls, l.length ≤ 17592186043904) :
    Calls Tryz.prog 47 #[v1, v2] w fun e w' => e = .returned (.bool true) ∧ Fr (fun _ => False) w w' := by
  obtain ⟨a1, c1, rfl, hc1⟩ := h1
  obtain ⟨a2, c2, rfl, hc2⟩ := h2
  have H1 : Hd _ := hc1
  have H2 : Hd _ := hc2
  have HLL : Hd (∀ l ∈ ls, l.length ≤ 17592186043904) := hll
  clear hc1 hc2 hll
  go_enter Tryz.func47, Tryz.ntmps47
  go_wp2_with fail
  go_loopw [5] (fun v wr => ∃ (k : Nat), v = .int .i64 k ∧ k ≤ ls.length ∧ Hd (Fr (fun _ => False) w wr)) (fun v _ => match v with | .int _ q => ls.length - q.toNat | _ => 0)
  case atStart => exact ⟨0, rfl, Nat.zero_le _, Fr.refl _ _⟩
  case round =>
    obtain ⟨k, rfl, hk, HF⟩ := hrel
    by_cases hlt : k < ls.length
    · have hne : ls ≠ [] := by intro e; simp [e] at hlt
      obtain ⟨k1, o1, rfl, hk1, g1⟩ := H1.out hne
      obtain ⟨k2, o2, rfl, hk2, g2⟩ := H2.out hne
      obtain ⟨x1, p0, ix1⟩ := g1 k hlt
      obtain ⟨x2, q0, ix2⟩ := g2 k hlt
      have p0 := (HF.out.cell hk1 (fun h => h)).trans p0
      have q0 := (HF.out.cell hk2 (fun h => h)).trans q0
      have X1 : Hd (IA wr x1 ls[k]) := ix1.stay HF.out
      have X2 : Hd (IA wr x2 ls[k]) := ix2.stay HF.out
      have hC := HLL.out _ (List.getElem_mem hlt)
      generalize ls[k] = l at *
      obtain ⟨a, b, e1, -⟩ := ix1
      obtain ⟨a'', b'', e3, -⟩ := ix2
      subst e1; subst e3
      have hct := eqInts_same _ _ l wr.drew (X1.out.stay (Fr.drew (Fr.refl _ wr))) (X2.out.stay (Fr.drew (Fr.refl _ wr))) hC
      have hk0 : (0 : Int) ≤ k := by omega
      have hk3 : (k : Int) < ls.length := by omega
      clear g1 g2
      go_wp2_with fail
      refine wp_region_still_tail 8 mixed (by kernel_rfl) ?_
      simp only [List.take_succ_cons, List.take_zero, List.drop_succ_cons, List.drop_zero]
      repeat still_step
      refine wpStill_nil ?_
      go_wp2_with fail
      refine hct.mono ?_
      rintro e w1 ⟨rfl, hF1⟩
      have HF1 : Hd (Fr (fun _ => False) w w1) := HF.out.drew.trans hF1
      clear hF1 p0 q0 hct
      go_wp2_with fail
      exact ⟨⟨k + 1, castG k, hlt, HF1⟩, measG hlt⟩
    · have hdk : decide ((k : Int) < ls.length) = false := by simp; omega
      go_wp2_with fail
      go_ret
      exact ⟨rfl, HF.out⟩
theorem eqSummary_same (s : PS) (x1 y1 x2 y2 : Value) (w : World) (h1 : IA w x1 s.H) (h2 : LA w y1 s.R) (h3 : IA w x2 s.H) (h4 : LA w y2 s.R) (hf : s.H.length ≤ 17592186043904 ∧ s.R.length ≤ 5864062014634 ∧ ∀ l ∈ s.R, l.length ≤ 17592186043904) :
    Calls Tryz.prog 26 #[.agg #[x1, y1], .agg #[x2, y2]] w fun e w' => e = .returned (.bool true) ∧ Fr (fun _ => False) w w' := by
  obtain ⟨W, hW⟩ : ∃ W, W = (w.alloc (.cells #[x1, y1] 43)).alloc (.cells #[x2, y2] 43) := ⟨_, rfl⟩
  have HW : Hd (W = (w.alloc (.cells #[x1, y1] 43)).alloc (.cells #[x2, y2] 43)) := hW
  have hF : Fr (fun _ => False) w W := by rw [hW]; exact Fr.alloc (Fr.alloc (Fr.refl _ w) _) _
  have k1 : W.heap[w.heap.size]? = some (.cells #[x1, y1] 43) := by
    rw [hW, Go.RowKit.Below.heap_alloc _ _ _ (by simp)]; exact heap_new w _
  have k2 : W.heap[w.heap.size + 1]? = some (.cells #[x2, y2] 43) := by
    have := heap_new (w.alloc (.cells #[x1, y1] 43)) (.cells #[x2, y2] 43)
    rw [World.size_alloc] at this
    rw [hW]; exact this
  obtain ⟨X, hX⟩ : ∃ X, X = w.heap.size := ⟨_, rfl⟩
  have HX : Hd (X = w.heap.size) := hX
  rw [← hX] at k1 k2
  have HF : Hd (Fr (fun _ => False) w W) := hF
  have hct := eqInts_same x1 x2 s.H W (h1.stay hF) (h3.stay hF) hf.1
  have HCT : Hd (∀ W', Fr (fun _ => False) W W' → Calls Tryz.prog 47 #[y1, y2] W' fun e w' => e = .returned (.bool true) ∧ Fr (fun _ => False) W' w') := fun W' f => eqLists_same y1 y2 s.R W' (h2.stay (hF.trans f)) (h4.stay (hF.trans f)) hf.2.1 hf.2.2
  obtain ⟨a1, b1, e1, -⟩ := h1
  obtain ⟨a2, b2, e2, -⟩ := h2
  obtain ⟨a3, b3, e3, -⟩ := h3
  obtain ⟨a4, b4, e4, -⟩ := h4
  subst e1 e2 e3 e4
  have HC : Hd (∀ wr, Fr (fun _ => False) W wr → wr.cell? ⟨X, 0, none⟩ = some (.slice a1 s.H.length b1) ∧ wr.cell? ⟨X, 1, none⟩ = some (.slice a2 s.R.length b2) ∧ wr.cell? ⟨X + 1, 0, none⟩ = some (.slice a3 s.H.length b3) ∧ wr.cell? ⟨X + 1, 1, none⟩ = some (.slice a4 s.R.length b4)) := fun wr f => by
    have e1 := (f.block _ (heap_lt k1) (fun h => h)).trans k1
    have e2 := (f.block _ (heap_lt k2) (fun h => h)).trans k2
    exact ⟨by rw [cell_of e1]; rfl, by rw [cell_of e1]; rfl, by rw [cell_of e2]; rfl, by rw [cell_of e2]; rfl⟩
  clear hW hF k1 k2 hX hf
  obtain ⟨c0, c1, d0, d1⟩ := HC.out W (Fr.refl _ _)
  go_enter Tryz.func26, Tryz.ntmps26
  go_upto_region 1 with fail
  rw [← HW.out, ← HX.out]
  clear HW HX
  go_wp2_with fail
  refine hct.mono ?_
  rintro _ w2 ⟨rfl, hF2⟩
  have HF2 : Hd (Fr (fun _ => False) W w2) := hF2
  clear hct hF2 c0 c1 d0 d1
  obtain ⟨c0, c1, d0, d1⟩ := HC.out w2 HF2.out
  go_wp2_with fail
  refine (HCT.out w2 HF2.out).mono ?_
  rintro _ w3 ⟨rfl, hF3⟩
  go_wp2_with fail
  go_ret
  exact ⟨rfl, (HF.out.trans HF2.out).trans hF3⟩
theorem eqSums_same (v1 v2 : Value) (ss : List PS) (w : World) (h1 : SsA w v1 ss) (h2 : SsA w v2 ss) (hn : FineS ss) :
    Calls Tryz.prog 11 #[v1, v2] w fun e w' => e = .returned (.bool true) ∧ Fr (fun _ => False) w w' := by
  obtain ⟨a1, c1, rfl, hc1⟩ := h1
  obtain ⟨a2, c2, rfl, hc2⟩ := h2
  have H1 : Hd _ := hc1
  have H2 : Hd _ := hc2
  have HFI : Hd (FineS ss) := hn
  have hz := hn.1
  clear hc1 hc2 hn
  go_enter Tryz.func11, Tryz.ntmps11
  go_wp2_with fail
  go_loopw [5] (fun v wr => ∃ (k : Nat), v = .int .i64 k ∧ k ≤ ss.length ∧ Hd (Fr (fun _ => False) w wr)) (fun v _ => match v with | .int _ q => ss.length - q.toNat | _ => 0)
  case atStart => exact ⟨0, rfl, Nat.zero_le _, Fr.refl _ _⟩
  case round =>
    obtain ⟨k, rfl, hk, HF⟩ := hrel
    by_cases hlt : k < ss.length
    · have hne : ss ≠ [] := by intro e; simp [e] at hlt
      obtain ⟨k1, o1, rfl, hk1, g1⟩ := H1.out hne
      obtain ⟨k2, o2, rfl, hk2, g2⟩ := H2.out hne
      obtain ⟨x1, y1, p0, p1, ix1, iy1⟩ := g1 k hlt
      obtain ⟨x2, y2, q0, q1, ix2, iy2⟩ := g2 k hlt
      have p0 := (HF.out.cell hk1 (fun h => h)).trans p0
      have p1 := (HF.out.cell hk1 (fun h => h)).trans p1
      have q0 := (HF.out.cell hk2 (fun h => h)).trans q0
      have q1 := (HF.out.cell hk2 (fun h => h)).trans q1
      have fD := HF.out.trans (Fr.drew (Fr.refl (fun _ => False) wr))
      have hct := eqSummary_same ss[k] x1 y1 x2 y2 wr.drew (ix1.stay fD) (iy1.stay fD) (ix2.stay fD) (iy2.stay fD) (HFI.out.2 _ (List.getElem_mem hlt))
      obtain ⟨a, b, e1, -⟩ := ix1
      obtain ⟨a', b', e2, -⟩ := iy1
      obtain ⟨a'', b'', e3, -⟩ := ix2
      obtain ⟨a4, b4, e4, -⟩ := iy2
      subst e1 e2 e3 e4
      have hk0 : (0 : Int) ≤ k := by omega
      have hk3 : (k : Int) < ss.length := by omega
      clear g1 g2 fD
      go_wp2_with fail
      refine wp_region_still_tail 8 mixed (by kernel_rfl) ?_
      simp only [List.take_succ_cons, List.take_zero, List.drop_succ_cons, List.drop_zero]
      repeat still_step
      refine wpStill_nil ?_
      go_wp2_with fail
      refine hct.mono ?_
      rintro e w1 ⟨rfl, hF1⟩
      have HF1 : Hd (Fr (fun _ => False) w w1) := HF.out.drew.trans hF1
      clear hF1 p0 p1 q0 q1 hct
      go_wp2_with fail
      exact ⟨⟨k + 1, castG k, hlt, HF1⟩, measG hlt⟩
    · have hdk : decide ((k : Int) < ss.length) = false := by simp; omega
      go_wp2_with fail
      go_ret
      exact ⟨rfl, HF.out⟩
theorem spareLists_any (v : Value) (ls : List (List Int)) (B g : Nat) (us : Nat → Value) (w : World) (hl : WL w B v ls g us) (hn : ls.length ≤ 5864062014634) (hll : ∀ l ∈ ls, l.length ≤ 17592186043904) : Calls Tryz.prog 29 #[v] w fun e w' => e = .returned (.bool true) ∧ Fr (fun _ => False) w w' := by
  have HL : Hd (WL w B v ls g us) := hl
  have HLL : Hd (∀ l ∈ ls, l.length ≤ 17592186043904) := hll
  have hv := hl.val
  clear hl hll
  subst hv
  obtain ⟨n, hnl⟩ : ∃ n, n = ls.length := ⟨_, rfl⟩
  have HN : Hd (n = ls.length) := hnl
  rw [← hnl] at hn ⊢
  clear hnl
  have hn0 : (0 : Int) ≤ (n : Int) + 64 := by omega
  have hn1 : (n : Int) + 64 ≤ ((n + 64 : Nat) : Int) := by omega
  have ht : ((n : Int) + 64).toNat = n + 64 := by omega
  go_enter Tryz.func29, Tryz.ntmps29
  go_wp2_with fail
  go_loopw [4] (fun v wr => ∃ (k : Nat), v = .int .i64 k ∧ k ≤ n + 64 ∧ Hd (Fr (fun _ => False) w wr)) (fun v _ => match v with | .int _ q => n + 64 - q.toNat | _ => 0)
  case atStart => exact ⟨0, rfl, Nat.zero_le _, Fr.refl _ _⟩
  case round =>
    obtain ⟨k, rfl, hk, HF⟩ := hrel
    by_cases hlt : k < n + 64
    · have hk0 : (0 : Int) ≤ k := by omega
      have hk1 : (k : Int) < (n : Int) + 64 := by omega
      have hk9 : (k : Int) < ((n + 64 : Nat) : Int) := by omega
      have p0 : wr.cell? ⟨g, k, none⟩ = some (us k) := by
        have h := HL.out.row.cell (i := k) (o := 0) (by have := HN.out; omega) (by omega)
        rw [Nat.mul_one, Nat.add_zero] at h
        exact (HF.out.cell HL.out.row.lt (fun h => h)).trans h
      by_cases hin : k < n
      · have hk2 : (k : Int) < n := by omega
        have d1 : decide ((k : Int) < n) = true := by simpa using hk2
        have d2 : decide ((k : Int) ≥ n) = false := by simp; omega
        have d3 : decide ((n : Int) ≤ k) = false := by simp; omega
        have d4 : decide (n ≤ k) = false := by simp; omega
        have hkc : k < ls.length := by have := HN.out; omega
        have hWI := (HL.out.each k hkc).stay HF.out
        have hct := spareInts_any (us k) ls[k] B wr hWI (HLL.out _ (List.getElem_mem hkc))
        obtain ⟨gi, ei, -⟩ := hWI
        rw [ei] at p0 hct
        go_wp2_with fail
        refine hct.mono ?_
        rintro _ w1 ⟨rfl, rfl⟩
        clear hct p0
        go_wp2_with fail
        exact ⟨⟨k + 1, castG k, by omega, HF⟩, measG hlt⟩
      · have d1 : decide ((k : Int) < n) = false := by simp; omega
        have d2 : decide ((k : Int) ≥ n) = true := by simp; omega
        have d3 : decide ((n : Int) ≤ k) = true := by simp; omega
        have d4 : decide (n ≤ k) = true := by simp; omega
        obtain ⟨gm, em, -, hm⟩ := (HL.out.mark k (by have := HN.out; omega) (by have := HN.out; omega)).stay HF.out
        rw [em] at p0
        have q0 : wr.cell? ⟨gm, 0, none⟩ = some (vI (-78)) := by rw [cell_of hm]; rfl
        clear hm em
        go_wp2_with fail
        exact ⟨⟨k + 1, castG k, by omega, HF⟩, measG hlt⟩
    · have d2 : decide ((k : Int) < (n : Int) + 64) = false := by simp; omega
      have d3 : decide ((k : Int) < ((n + 64 : Nat) : Int)) = false := by simp; omega
      go_wp2_with fail
      go_ret
      exact ⟨rfl, HF.out⟩
abbrev nilV : Value := .slice none 0 0
abbrev zeroS : List Value := [nilV, nilV]
def two2 (w : World) (g q : Nat) (x y : Value) : World := (w.setCell ⟨g, q, none⟩ x).setCell ⟨g, q + 1, none⟩ y
theorem two2_fr (w : World) (g q : Nat) (x y : Value) : Fr (fun k => k = g) w (two2 w g q x y) := (setCell_fr w g q x).trans (setCell_fr _ g (q + 1) y)
theorem Rws.set2 {w : World} {t g m : Nat} {R : Nat → List Value} (h : Rws w t 2 g m R) {i : Nat} (hi : i < m) (hl : (R i).length = 2) (x y : Value) : Rws (two2 w g (i * 2) x y) t 2 g m (at1 R i [x, y]) := by
  have h0 := h.set1 (o := 0) hi (by omega) hl x
  have h1 := h0.set1 (i := i) (o := 1) hi (by omega) (by rw [at1_self]; simpa using hl) y
  simp only [at1_at1, at1_self, Nat.add_zero] at h1
  obtain ⟨a, b, hR⟩ : ∃ a b, R i = [a, b] := by
    match R i, hl with
    | [a, b], _ => exact ⟨a, b, rfl⟩
  rw [hR] at h1
  exact h1
theorem makeSS (n : Nat) (hn : n ≤ 2932031007381) (w : World) : (Instr.makeSlice 25 (.int .i64 n) (.int .i64 n)).run Tryz.prog w = .ok (.slice (some ⟨w.heap.size, 0, none⟩) n n) (w.alloc (.cells (madeCells zeroS.toArray (n * 2)) 43)) := by
  rw [run_make_of 25 43 (.agg zeroS.toArray) 2 48 under25 (by kernel_rfl) (by kernel_rfl) (by kernel_rfl) n (by omega) (by omega) w]
  rfl
theorem Rws.made2 (w : World) (m : Nat) : Rws (w.alloc (.cells (madeCells zeroS.toArray (m * 2)) 43)) 43 2 w.heap.size m (fun _ => zeroS) :=
  ⟨_, heap_new w _, by simp [madeCells], fun i o hi ho => by
    have hlt : i * 2 + o < m * 2 := by omega
    have e : (i * 2 + o) % 2 = o := by omega
    unfold madeCells
    simp only [Array.getElem?_map, Array.getElem?_range, hlt, if_true, Option.map_some]
    show some (zeroS.toArray[(i * 2 + o) % 2]!) = _
    rw [e]
    rcases (show o = 0 ∨ o = 1 by omega) with rfl | rfl <;> rfl⟩
def blW (h : Value) (us : Nat → Value) (n : Nat) (k : Nat) : Prop := h.ownBlock = some k ∨ ∃ q, q < n ∧ (us q).ownBlock = some k
structure WS1 (w : World) (B : Nat) (hv rv : Value) (s : PS) (g : Nat) (us : Nat → Value) : Prop where
  h : WI w B hv s.H
  r : WL w B rv s.R g us
  ap : ∀ q, q < s.R.length → (us q).ownBlock ≠ hv.ownBlock
theorem WS1.stay {w w' : World} {B : Nat} {h r : Value} {s : PS} {g : Nat} {us : Nat → Value} (x : WS1 w B h r s g us) (f : Fr (fun _ => False) w w') : WS1 w' B h r s g us := ⟨x.h.stay f, x.r.stay f, x.ap⟩
theorem WS1.blk {w : World} {B : Nat} {h r : Value} {s : PS} {g : Nat} {us : Nat → Value} (x : WS1 w B h r s g us) {k : Nat} (hk : blW h us s.R.length k) : B ≤ k ∧ k < w.heap.size := by
  rcases hk with hk | ⟨q, hq, hk⟩
  · exact x.h.ge k hk
  · exact (x.r.each q hq).ge k hk
theorem Rws.apart {w : World} {t t' sz sz' g g' m m' : Nat} {R R' : Nat → List Value} (h : Rws w t sz g m R) (k : Rws w t' sz' g' m' R') (ht : t ≠ t') : g ≠ g' := by
  obtain ⟨cs, h, -⟩ := h
  obtain ⟨cs', k, -⟩ := k
  intro e
  subst e
  rw [h] at k
  cases k
  exact ht rfl
theorem WL.at {w w' : World} {B : Nat} {v : Value} {ls : List (List Int)} {g : Nat} {us : Nat → Value} {t sz q m : Nat} {R : Nat → List Value} (h : WL w B v ls g us) (hR : Rws w t sz q m R) (h1 : t ≠ 3) (h2 : t ≠ 40) (f : Fr (fun k => k = q) w w') : WL w' B v ls g us :=
  ⟨h.val, h.ge, h.row.fr f (fun e => hR.apart h.row h2 e.symm), fun i hi => (h.each i hi).fr f ((h.each i hi).ne hR h1), fun i a b => (h.mark i a b).fr f ((h.mark i a b).ne hR h1), h.apart⟩
theorem WS1.at {w w' : World} {B : Nat} {h r : Value} {s : PS} {g : Nat} {us : Nat → Value} {t sz q m : Nat} {R : Nat → List Value} (x : WS1 w B h r s g us) (hR : Rws w t sz q m R) (h1 : t ≠ 3) (h2 : t ≠ 40) (f : Fr (fun k => k = q) w w') : WS1 w' B h r s g us :=
  ⟨x.h.fr f (x.h.ne hR h1), x.r.at hR h1 h2 f, x.ap⟩
theorem WS1.mono {w : World} {B B' : Nat} {h r : Value} {s : PS} {g : Nat} {us : Nat → Value} (x : WS1 w B h r s g us) (hB : B' ≤ B) : WS1 w B' h r s g us := ⟨x.h.mono hB, x.r.mono hB, x.ap⟩
structure SumV where
  h : Value
  r : Value
  g : Nat
  us : Nat → Value
structure WSs (w : World) (B : Nat) (v : Value) (ss : List PS) (g : Nat) (xs : Nat → SumV) : Prop where
  val : v = .slice (some ⟨g, 0, none⟩) ss.length (ss.length + 64)
  ge : B ≤ g
  row : Rws w 43 2 g (ss.length + 64) (fun i => [(xs i).h, (xs i).r])
  each : ∀ i (h : i < ss.length), WS1 w B (xs i).h (xs i).r ss[i] (xs i).g (xs i).us
  mark : ∀ i, ss.length ≤ i → i < ss.length + 64 → MK w B (xs i).h (-77) ∧ (xs i).r = nilV
  apart : ∀ i j (hi : i < ss.length) (hj : j < ss.length), i ≠ j → ∀ k, blW (xs i).h (xs i).us ss[i].R.length k → ¬ blW (xs j).h (xs j).us ss[j].R.length k
theorem wideSums_any (v : Value) (ss : List PS) (w : World) (hl : SsA w v ss) (hn : FineS ss) : Calls Tryz.prog 6 #[v] w fun e w' => ∃ v' g xs, e = .returned v' ∧ WSs w' w.heap.size v' ss g xs ∧ Fr (fun _ => False) w w' := by
  obtain ⟨a, cp, rfl, h0⟩ := hl
  have H0 : Hd _ := h0
  have HFI : Hd (FineS ss) := hn
  have hn := hn.1
  clear h0
  obtain ⟨n, hnl⟩ : ∃ n, n = ss.length := ⟨_, rfl⟩
  have HN : Hd (n = ss.length) := hnl
  rw [← hnl] at hn ⊢
  clear hnl
  have hmk := makeSS (n + 64) (by omega) w
  have hcast : ((n + 64 : Nat) : Int) = (n : Int) + 64 := by omega
  rw [hcast] at hmk
  have HR : Hd (Rws (w.alloc (.cells (madeCells zeroS.toArray ((n + 64) * 2)) 43)) 43 2 w.heap.size (n + 64) (fun i => if i < 0 then zeroS else zeroS)) := (Rws.made2 w (n + 64)).congr (fun i _ => by simp)
  have HF : Hd (Fr (fun _ => False) w (w.alloc (.cells (madeCells zeroS.toArray ((n + 64) * 2)) 43))) := Fr.alloc (Fr.refl _ w) _
  obtain ⟨H, hH⟩ : ∃ H, H = w.heap.size := ⟨_, rfl⟩
  have HH : Hd (H = w.heap.size) := hH
  rw [← hH] at hmk HR
  clear hH
  go_enter Tryz.func6, Tryz.ntmps6
  go_wp2_with fail
  generalize w.alloc (.cells (madeCells zeroS.toArray ((n + 64) * 2)) 43) = wb at *
  clear hmk
  go_loopw [4] (fun v wr => ∃ (k : Nat) (xs : Nat → SumV), v = .int .i64 k ∧ k ≤ n + 64 ∧ Hd (Rws wr 43 2 H (n + 64) (fun i => if i < k then [(xs i).h, (xs i).r] else zeroS)) ∧ Hd (∀ i (h : i < ss.length), i < k → WS1 wr w.heap.size (xs i).h (xs i).r ss[i] (xs i).g (xs i).us) ∧ Hd (∀ i, n ≤ i → i < k → MK wr w.heap.size (xs i).h (-77) ∧ (xs i).r = nilV) ∧ Hd (∀ i j (hi : i < ss.length) (hj : j < ss.length), i < k → j < k → i ≠ j → ∀ q, blW (xs i).h (xs i).us ss[i].R.length q → ¬ blW (xs j).h (xs j).us ss[j].R.length q) ∧ Hd (Fr (fun _ => False) w wr)) (fun v _ => match v with | .int _ q => n + 64 - q.toNat | _ => 0)
  case atStart => exact ⟨0, fun _ => ⟨undef, undef, 0, fun _ => undef⟩, rfl, Nat.zero_le _, HR.out, fun i _ hi => absurd hi (Nat.not_lt_zero _), fun i _ hi => absurd hi (Nat.not_lt_zero _), fun i j _ _ hi => absurd hi (Nat.not_lt_zero _), HF.out⟩
  case round =>
    clear HR HF
    obtain ⟨k, xs, rfl, hk, HR, HW, HM, HA, HF⟩ := hrel
    by_cases hlt : k < n + 64
    · have hk0 : (0 : Int) ≤ k := by omega
      have hk1 : (k : Int) < (n : Int) + 64 := by omega
      have HST : Hd (∀ w3 (x : SumV) (q : Nat → List Value), (q k).length = 2 → (∀ i, i < n + 64 → i ≠ k → q i = if i < k then [(xs i).h, (xs i).r] else zeroS) → Rws w3 43 2 H (n + 64) q → Rws (two2 w3 H (k * 2) x.h x.r) 43 2 H (n + 64) (fun i => if i < k + 1 then [(at1 xs k x i).h, (at1 xs k x i).r] else zeroS)) := fun w3 x q hq hq2 h => by
        have h1 := h.set2 (i := k) hlt hq x.h x.r
        refine h1.congr (fun i hi => ?_)
        by_cases e : i = k
        · subst e
          rw [at1_self, if_pos (by omega), at1_self]
        · rw [at1_ne _ _ e, at1_ne _ _ e, hq2 i hi e]
          by_cases e2 : i < k
          · rw [if_pos e2, if_pos (by omega)]
          · rw [if_neg e2, if_neg (by omega)]
      have hF3 : Fr (fun _ => False) wr (wr.alloc (.cells #[vI (-77)] 3)) := Fr.alloc (Fr.refl _ wr) _
      have HR3 : Hd (Rws (wr.alloc (.cells #[vI (-77)] 3)) 43 2 H (n + 64) (fun i => if i < k then [(xs i).h, (xs i).r] else zeroS)) := HR.out.fr hF3 (fun e => e)
      have p0 := HR3.out.cell (i := k) (o := 0) hlt (by omega)
      have p1 := HR3.out.cell (i := k) (o := 1) hlt (by omega)
      rw [if_neg (Nat.lt_irrefl k)] at p0 p1
      rw [Nat.add_zero] at p0
      have z0 := HR3.out.frozen (k * 2)
      have z1 := HR3.out.frozen (k * 2 + 1)
      have hFs := two2_fr (wr.alloc (.cells #[vI (-77)] 3)) H (k * 2) (.slice (some ⟨wr.heap.size, 0, none⟩) 1 1) nilV
      have hmkn := (MK.new wr (-77)).mono HF.out.size
      have HQ1 : Hd (Rws (two2 (wr.alloc (.cells #[vI (-77)] 3)) H (k * 2) (.slice (some ⟨wr.heap.size, 0, none⟩) 1 1) nilV) 43 2 H (n + 64) (at1 (fun i => if i < k then [(xs i).h, (xs i).r] else zeroS) k [.slice (some ⟨wr.heap.size, 0, none⟩) 1 1, nilV])) := HR3.out.set2 hlt (by rw [if_neg (Nat.lt_irrefl k)]; rfl) _ _
      have HQ2 : Hd (∀ i (h : i < ss.length), i < k → WS1 (two2 (wr.alloc (.cells #[vI (-77)] 3)) H (k * 2) (.slice (some ⟨wr.heap.size, 0, none⟩) 1 1) nilV) w.heap.size (xs i).h (xs i).r ss[i] (xs i).g (xs i).us) := fun i h hi => ((HW.out i h hi).stay hF3).at HR3.out (by decide) (by decide) hFs
      have HQ3 : Hd (∀ i, n ≤ i → i < k → MK (two2 (wr.alloc (.cells #[vI (-77)] 3)) H (k * 2) (.slice (some ⟨wr.heap.size, 0, none⟩) 1 1) nilV) w.heap.size (xs i).h (-77) ∧ (xs i).r = nilV) := fun i h1 h2 => ⟨((HM.out i h1 h2).1.stay hF3).fr hFs (((HM.out i h1 h2).1.stay hF3).ne HR3.out (by decide)), (HM.out i h1 h2).2⟩
      have HQ4 : Hd (MK (two2 (wr.alloc (.cells #[vI (-77)] 3)) H (k * 2) (.slice (some ⟨wr.heap.size, 0, none⟩) 1 1) nilV) w.heap.size (.slice (some ⟨wr.heap.size, 0, none⟩) 1 1) (-77)) := hmkn.fr hFs (hmkn.ne HR3.out (by decide))
      have HQ5 : Hd (Fr (fun _ => False) w (two2 (wr.alloc (.cells #[vI (-77)] 3)) H (k * 2) (.slice (some ⟨wr.heap.size, 0, none⟩) 1 1) nilV)) := (HF.out.trans hF3).then hFs (fun j hj e => by have e : j = H := e; have := HH.out; omega)
      clear hF3 HR HW HM HF hFs HR3 hmkn
      go_upto_region 6 with fail
      change Code.wp Tryz.prog _ _ _ (two2 (wr.alloc (.cells #[vI (-77)] 3)) H (k * 2) (.slice (some ⟨wr.heap.size, 0, none⟩) 1 1) nilV)
      generalize two2 (wr.alloc (.cells #[vI (-77)] 3)) H (k * 2) (.slice (some ⟨wr.heap.size, 0, none⟩) 1 1) nilV = w1 at *
      generalize Value.slice (some ⟨wr.heap.size, 0, none⟩) 1 1 = mk at *
      clear p0 p1 z0 z1
      by_cases hin : k < n
      · have hk2 : (k : Int) < n := by omega
        have d1 : decide ((k : Int) < n) = true := by simpa using hk2
        have hkc : k < ss.length := by have := HN.out; omega
        obtain ⟨ak, ao, rfl, hak, hcells⟩ := H0.out (by intro e; simp [e] at hkc)
        obtain ⟨hv, lv, c0, c1, hI, hL⟩ := hcells k hkc
        have hfi := HFI.out.2 _ (List.getElem_mem hkc)
        have HI1 : Hd (∀ W, Fr (fun _ => False) w1 W → IA W hv ss[k].H) := fun W f => hI.stay (HQ5.out.trans f)
        have HI2 : Hd (∀ W, Fr (fun _ => False) w1 W → LA W lv ss[k].R) := fun W f => hL.stay (HQ5.out.trans f)
        have hne1 : ¬ ak = H := by have := HH.out; omega
        have hne2 : ¬ H = ak := fun e => hne1 e.symm
        have HSX : Hd (∀ W, Fr (fun _ => False) w1 W → W.cell? ⟨ak, ao + k * 2, none⟩ = some hv ∧ W.cell? ⟨ak, ao + k * 2 + 1, none⟩ = some lv ∧ W.cell? ⟨H, k * 2, none⟩ = some mk ∧ W.cell? ⟨H, k * 2 + 1, none⟩ = some nilV ∧ W.frozen? ⟨H, k * 2, none⟩ = false ∧ W.frozen? ⟨H, k * 2 + 1, none⟩ = false) := fun W f => by
          have f2 := HQ5.out.trans f
          have hr := HQ1.out.fr f (fun e => e)
          have x0 := hr.cell (i := k) (o := 0) hlt (by omega)
          have x1 := hr.cell (i := k) (o := 1) hlt (by omega)
          rw [at1_self] at x0 x1
          exact ⟨(f2.cell hak (fun e => e)).trans c0, (f2.cell hak (fun e => e)).trans c1, x0, x1, hr.frozen _, hr.frozen _⟩
        obtain ⟨q0, q1, q2, q3, q4, q5⟩ := HSX.out w1 (Fr.refl _ _)
        obtain ⟨ha, hc, ehv, -⟩ := hI
        obtain ⟨la, lc, elv, -⟩ := hL
        subst ehv elv
        obtain ⟨bs1, bs2, bs3⟩ := hfi
        have HB3 : Hd (∀ l ∈ ss[k].R, l.length ≤ 17592186043904) := bs3
        have HSE : Hd (∀ i (h : i < ss.length), i = k → ss[i] = ss[k]) := fun i h e => by subst e; rfl
        clear hcells c0 c1 bs3
        generalize ss[k] = s at *
        go_upto_region 7 with fail
        go_region_held3 (fun w' => w'.cell? ⟨ak, ao + k * 2, none⟩ = some (.slice ha s.H.length hc) ∧ w'.cell? ⟨ak, ao + k * 2 + 1, none⟩ = some (.slice la s.R.length lc)) (go_keep) ((
          first
            | (go_at_call 17
               refine (show Calls Tryz.prog 17 #[.slice ha s.H.length hc] _ _ from wideInts_any _ s.H _ (by first | exact HI1.out _ (Fr.drew (Fr.refl _ _)) | exact HI1.out _ HGb.out) bs1).mono ?_
               rintro e wx ⟨hv', rfl, hxo, hfx⟩
               have HOa : Hd (WI wx _ hv' s.H) := hxo
               obtain ⟨gx, ex, -⟩ := hxo
               subst ex
               have HGa : Hd (Fr (fun _ => False) w1 wx) := by first | exact (Fr.drew (Fr.refl _ _)).trans hfx | exact HGb.out.trans hfx
               obtain ⟨s0, s1, s2, s3, s4, s5⟩ := HSX.out wx HGa.out
               have HFXa : Hd _ := hfx
               clear hfx)
            | (go_at_call 18
               refine (show Calls Tryz.prog 18 #[.slice la s.R.length lc] _ _ from wideLists_any _ s.R _ (by first | exact HI2.out _ (Fr.drew (Fr.refl _ _)) | exact HI2.out _ HGa.out) bs2 HB3.out).mono ?_
               rintro e wy ⟨rv', gy, usy, rfl, hyo, hfy⟩
               have HOb : Hd _ := hyo
               have erv := hyo.val
               subst erv
               have HGb : Hd (Fr (fun _ => False) w1 wy) := by first | exact (Fr.drew (Fr.refl _ _)).trans hfy | exact HGa.out.trans hfy
               obtain ⟨t0, t1, t2, t3, t4, t5⟩ := HSX.out wy HGb.out
               have HFXb : Hd _ := hfy
               clear hyo hfy)))
        obtain ⟨x, hx⟩ : ∃ x : SumV, x = ⟨.slice (some ⟨gx, 0, none⟩) s.H.length (s.H.length + 64), .slice (some ⟨gy, 0, none⟩) s.R.length (s.R.length + 64), gy, usy⟩ := ⟨_, rfl⟩
        have hWI : WI wx w1.heap.size (.slice (some ⟨gx, 0, none⟩) s.H.length (s.H.length + 64)) s.H := HOa.out
        have hWL := HOb.out
        have hsx : w1.heap.size ≤ wx.heap.size := HGa.out.size
        have hw1 : w.heap.size ≤ w1.heap.size := HQ5.out.size
        have hN1 : WS1 wy w1.heap.size x.h x.r s x.g x.us := by
          rw [hx]
          refine ⟨hWI.stay HFXb.out, hWL.mono hsx, fun q hq e => ?_⟩
          have e2 : (usy q).ownBlock = some gx := e
          have k1 := ((hWL.each q hq).ge gx e2).1
          have k2 := (hWI.ge gx rfl).2
          omega
        have hRy : Rws wy 43 2 H (n + 64) (at1 (fun i => if i < k then [(xs i).h, (xs i).r] else zeroS) k [mk, nilV]) := HQ1.out.fr HGb.out (fun e => e)
        have hFs := two2_fr wy H (k * 2) x.h x.r
        have HZ1 : Hd (Rws (two2 wy H (k * 2) x.h x.r) 43 2 H (n + 64) (fun i => if i < k + 1 then [(at1 xs k x i).h, (at1 xs k x i).r] else zeroS)) := HST.out wy x _ (by rw [at1_self]; rfl) (fun i _ e => at1_ne _ _ e) hRy
        have HZ2 : Hd (∀ i (h : i < ss.length), i < k + 1 → WS1 (two2 wy H (k * 2) x.h x.r) w.heap.size (at1 xs k x i).h (at1 xs k x i).r ss[i] (at1 xs k x i).g (at1 xs k x i).us) := fun i h hi => by
          by_cases e : i = k
          · rw [HSE.out i h e, e, at1_self]
            exact (hN1.mono hw1).at hRy (by decide) (by decide) hFs
          · rw [at1_ne _ _ e]
            exact ((HQ2.out i h (by omega)).stay HGb.out).at hRy (by decide) (by decide) hFs
        have HZ3 : Hd (∀ i, n ≤ i → i < k + 1 → MK (two2 wy H (k * 2) x.h x.r) w.heap.size (at1 xs k x i).h (-77) ∧ (at1 xs k x i).r = nilV) := fun i h1 h2 => by omega
        have HZ4 : Hd (∀ i j (hi : i < ss.length) (hj : j < ss.length), i < k + 1 → j < k + 1 → i ≠ j → ∀ q, blW (at1 xs k x i).h (at1 xs k x i).us ss[i].R.length q → ¬ blW (at1 xs k x j).h (at1 xs k x j).us ss[j].R.length q) := fun i j hi hj h1 h2 hne q e1 e2 => by
          by_cases ei : i = k
          · have ej : j ≠ k := fun e => hne (ei.trans e.symm)
            rw [HSE.out i hi ei, ei, at1_self] at e1
            rw [at1_ne _ _ ej] at e2
            have k1 := (hN1.blk e1).1
            have k2 := ((HQ2.out j hj (by omega)).blk e2).2
            omega
          · rw [at1_ne _ _ ei] at e1
            by_cases ej : j = k
            · rw [HSE.out j hj ej, ej, at1_self] at e2
              have k1 := (hN1.blk e2).1
              have k2 := ((HQ2.out i hi (by omega)).blk e1).2
              omega
            · rw [at1_ne _ _ ej] at e2
              exact HA.out i j hi hj (by omega) (by omega) hne q e1 e2
        have HZ5 : Hd (Fr (fun _ => False) w (two2 wy H (k * 2) x.h x.r)) := (HQ5.out.trans HGb.out).then hFs (fun j hj e => by have e : j = H := e; have := HH.out; omega)
        have hx1 : x.h = .slice (some ⟨gx, 0, none⟩) s.H.length (s.H.length + 64) := by rw [hx]
        have hx2 : x.r = .slice (some ⟨gy, 0, none⟩) s.R.length (s.R.length + 64) := by rw [hx]
        have HTW : Hd (two2 wy H (k * 2) x.h x.r = (wy.setCell ⟨H, k * 2, none⟩ (.slice (some ⟨gx, 0, none⟩) s.H.length (s.H.length + 64))).setCell ⟨H, k * 2 + 1, none⟩ (.slice (some ⟨gy, 0, none⟩) s.R.length (s.R.length + 64))) := by unfold Hd two2; rw [hx1, hx2]
        rw [← HTW.out]
        clear HTW hx hx1 hx2 hWI hWL hsx hw1 hN1 hRy hFs HOa HOb HFXa HFXb s0 s1 s2 s3 s4 s5 t0 t1 t2 t3 t4 t5 q0 q1 q2 q3 q4 q5 HQ1 HQ2 HQ3 HQ4 HA HST
        generalize two2 wy H (k * 2) x.h x.r = wz at *
        go_wp2_with fail
        exact ⟨⟨k + 1, _, castG k, by omega, HZ1, HZ2, HZ3, HZ4, HZ5⟩, measG hlt⟩
      · have d1 : decide ((k : Int) < n) = false := by simp; omega
        have HZ1 : Hd (Rws w1 43 2 H (n + 64) (fun i => if i < k + 1 then [(at1 xs k ⟨mk, nilV, 0, fun _ => undef⟩ i).h, (at1 xs k ⟨mk, nilV, 0, fun _ => undef⟩ i).r] else zeroS)) := HQ1.out.congr (fun i hi => by
          by_cases e : i = k
          · subst e
            rw [at1_self, if_pos (by omega), at1_self]
          · rw [at1_ne _ _ e, at1_ne _ _ e]
            by_cases e2 : i < k
            · rw [if_pos e2, if_pos (by omega)]
            · rw [if_neg e2, if_neg (by omega)])
        have HZ2 : Hd (∀ i (h : i < ss.length), i < k + 1 → WS1 w1 w.heap.size (at1 xs k ⟨mk, nilV, 0, fun _ => undef⟩ i).h (at1 xs k ⟨mk, nilV, 0, fun _ => undef⟩ i).r ss[i] (at1 xs k ⟨mk, nilV, 0, fun _ => undef⟩ i).g (at1 xs k ⟨mk, nilV, 0, fun _ => undef⟩ i).us) := fun i h hi => by
          have hne : i ≠ k := by have := HN.out; omega
          rw [at1_ne _ _ hne]
          exact HQ2.out i h (by omega)
        have HZ3 : Hd (∀ i, n ≤ i → i < k + 1 → MK w1 w.heap.size (at1 xs k ⟨mk, nilV, 0, fun _ => undef⟩ i).h (-77) ∧ (at1 xs k ⟨mk, nilV, 0, fun _ => undef⟩ i).r = nilV) := fun i h1 h2 => by
          by_cases e : i = k
          · subst e
            rw [at1_self]
            exact ⟨HQ4.out, rfl⟩
          · rw [at1_ne _ _ e]
            exact HQ3.out i h1 (by omega)
        have HZ4 : Hd (∀ i j (hi : i < ss.length) (hj : j < ss.length), i < k + 1 → j < k + 1 → i ≠ j → ∀ q, blW (at1 xs k ⟨mk, nilV, 0, fun _ => undef⟩ i).h (at1 xs k ⟨mk, nilV, 0, fun _ => undef⟩ i).us ss[i].R.length q → ¬ blW (at1 xs k ⟨mk, nilV, 0, fun _ => undef⟩ j).h (at1 xs k ⟨mk, nilV, 0, fun _ => undef⟩ j).us ss[j].R.length q) := fun i j hi hj h1 h2 hne => by
          have e1 : i ≠ k := by have := HN.out; omega
          have e2 : j ≠ k := by have := HN.out; omega
          rw [at1_ne _ _ e1, at1_ne _ _ e2]
          exact HA.out i j hi hj (by omega) (by omega) hne
        clear HQ1 HQ2 HQ3 HQ4 HST HA
        go_wp2_with fail
        exact ⟨⟨k + 1, _, castG k, by omega, HZ1, HZ2, HZ3, HZ4, HQ5⟩, measG hlt⟩
    · have d2 : decide ((k : Int) < (n : Int) + 64) = false := by simp; omega
      obtain rfl : k = n + 64 := by omega
      have HZ : Hd (WSs wr w.heap.size (.slice (some ⟨H, 0, none⟩) n (n + 64)) ss H xs) := by
        have e := HN.out
        subst e
        exact ⟨rfl, by have := HH.out; omega, HR.out.congr (fun i hi => by rw [if_pos hi]), fun i h => HW.out i h (by omega), fun i h1 h2 => HM.out i h1 h2, fun i j h1 h2 hne => HA.out i j h1 h2 (by omega) (by omega) hne⟩
      go_wp2_with fail
      go_ret
      exact ⟨_, H, xs, rfl, HZ.out, HF.out⟩
theorem spareSums_any (v : Value) (ss : List PS) (B g : Nat) (xs : Nat → SumV) (w : World) (hl : WSs w B v ss g xs) (hn : FineS ss) : Calls Tryz.prog 13 #[v] w fun e w' => e = .returned (.bool true) ∧ Fr (fun _ => False) w w' := by
  have HL : Hd (WSs w B v ss g xs) := hl
  have HFI : Hd (FineS ss) := hn
  have hv := hl.val
  have hn := hn.1
  clear hl
  subst hv
  obtain ⟨n, hnl⟩ : ∃ n, n = ss.length := ⟨_, rfl⟩
  have HN : Hd (n = ss.length) := hnl
  rw [← hnl] at hn ⊢
  clear hnl
  have hn0 : (0 : Int) ≤ (n : Int) + 64 := by omega
  have hn1 : (n : Int) + 64 ≤ ((n + 64 : Nat) : Int) := by omega
  have ht : ((n : Int) + 64).toNat = n + 64 := by omega
  go_enter Tryz.func13, Tryz.ntmps13
  go_wp2_with fail
  go_loopw [4] (fun v wr => ∃ (k : Nat), v = .int .i64 k ∧ k ≤ n + 64 ∧ Hd (Fr (fun _ => False) w wr)) (fun v _ => match v with | .int _ q => n + 64 - q.toNat | _ => 0)
  case atStart => exact ⟨0, rfl, Nat.zero_le _, Fr.refl _ _⟩
  case round =>
    obtain ⟨k, rfl, hk, HF⟩ := hrel
    by_cases hlt : k < n + 64
    · have hk0 : (0 : Int) ≤ k := by omega
      have hk1 : (k : Int) < (n : Int) + 64 := by omega
      have hk9 : (k : Int) < ((n + 64 : Nat) : Int) := by omega
      have p0 : wr.cell? ⟨g, k * 2, none⟩ = some (xs k).h := by
        have h := HL.out.row.cell (i := k) (o := 0) (by have := HN.out; omega) (by omega)
        exact (HF.out.cell HL.out.row.lt (fun h => h)).trans h
      have HP1 : Hd (∀ W, Fr (fun _ => False) w W → W.cell? ⟨g, k * 2 + 1, none⟩ = some (xs k).r) := fun W f => by
        have h := HL.out.row.cell (i := k) (o := 1) (by have := HN.out; omega) (by omega)
        exact (f.cell HL.out.row.lt (fun h => h)).trans h
      by_cases hin : k < n
      · have d2 : decide ((k : Int) ≥ n) = false := by simp; omega
        have d3 : decide ((n : Int) ≤ k) = false := by simp; omega
        have d4 : decide (n ≤ k) = false := by simp; omega
        have hkc : k < ss.length := by have := HN.out; omega
        have hfi := HFI.out.2 _ (List.getElem_mem hkc)
        have hWI := (HL.out.each k hkc).h.stay HF.out
        have hct := spareInts_any (xs k).h ss[k].H B wr hWI hfi.1
        have HCT : Hd (∀ W, Fr (fun _ => False) w W → Calls Tryz.prog 29 #[(xs k).r] W fun e w' => e = .returned (.bool true) ∧ Fr (fun _ => False) W w') := fun W f => spareLists_any (xs k).r ss[k].R B (xs k).g (xs k).us W ((HL.out.each k hkc).r.stay f) hfi.2.1 hfi.2.2
        have er := (HL.out.each k hkc).r.val
        have p1 := HP1.out wr HF.out
        obtain ⟨gi, ei, -⟩ := hWI
        rw [ei] at p0 hct
        rw [er] at HCT HP1 p1
        clear hfi
        go_wp2_with fail
        refine hct.mono ?_
        rintro _ w1 ⟨rfl, rfl⟩
        clear hct
        go_wp2_with fail
        refine (HCT.out _ HF.out).mono ?_
        rintro _ w2 ⟨rfl, hF2⟩
        have HF2 : Hd (Fr (fun _ => False) w w2) := HF.out.trans hF2
        clear p0 p1 hF2
        go_wp2_with fail
        exact ⟨⟨k + 1, castG k, by omega, HF2⟩, measG hlt⟩
      · have d2 : decide ((k : Int) ≥ n) = true := by simp; omega
        have d3 : decide ((n : Int) ≤ k) = true := by simp; omega
        have d4 : decide (n ≤ k) = true := by simp; omega
        obtain ⟨hm1, hm2⟩ := HL.out.mark k (by have := HN.out; omega) (by have := HN.out; omega)
        obtain ⟨gm, em, -, hm⟩ := hm1.stay HF.out
        have p1 := HP1.out wr HF.out
        rw [em] at p0
        rw [hm2] at p1
        have q0 : wr.cell? ⟨gm, 0, none⟩ = some (vI (-77)) := by rw [cell_of hm]; rfl
        clear hm em hm1 hm2 HP1
        go_wp2_with fail
        exact ⟨⟨k + 1, castG k, by omega, HF⟩, measG hlt⟩
    · have d2 : decide ((k : Int) < (n : Int) + 64) = false := by simp; omega
      have d3 : decide ((k : Int) < ((n + 64 : Nat) : Int)) = false := by simp; omega
      go_wp2_with fail
      go_ret
      exact ⟨rfl, HF.out⟩
theorem rws_owns {w : World} {t sz g m : Nat} {R : Nat → List Value} (h : Rws w t sz g m R) (hsz : 0 < sz) {B n : Nat} (hB : B ≤ g) (hn : n ≤ m) (hm : m ≤ maxLen) {α : Type} (L : List α) (row : α → List Value) (hr : ∀ x, (row x).length = sz) (hL : L.length = n) (hrow : ∀ i (h : i < L.length), R i = row L[i]) :
    w.ownsRow B t sz (.slice (some ⟨g, 0, none⟩) n m) n (L.flatMap row) := by
  obtain ⟨cs, h1, h2, h3⟩ := h
  have hlen : ∀ L : List α, (L.flatMap row).length = L.length * sz := fun L => by
    induction L with
    | nil => simp
    | cons a L ih => rw [List.flatMap_cons, List.length_append, ih, hr, List.length_cons, Nat.add_mul]; omega
  refine ⟨by rw [hlen, hL], Or.inr ⟨g, m, cs, rfl, hB, h1, hn, hm, h2, ?_⟩⟩
  apply List.ext_getElem?
  intro q
  by_cases hq : q < n * sz
  · have hi : q / sz < n := (Nat.div_lt_iff_lt_mul hsz).2 hq
    have ho : q % sz < sz := Nat.mod_lt _ hsz
    have hqe : q = q / sz * sz + q % sz := by rw [Nat.mul_comm]; exact (Nat.div_add_mod q sz).symm
    have hiL : q / sz < L.length := by omega
    rw [List.getElem?_take_of_lt hq, Array.getElem?_toList]
    have e1 := h3 (q / sz) (q % sz) (by omega) ho
    rw [← hqe] at e1
    have e2 := flat_get row sz hr L (q / sz) (q % sz) hiL ho
    rw [← hqe] at e2
    rw [e1, e2, hrow _ hiL]
    have : q % sz < (row L[q / sz]).length := by rw [hr]; exact ho
    rw [List.getD_eq_getElem?_getD, List.getElem?_eq_getElem this]
    rfl
  · rw [List.getElem?_eq_none (by rw [List.length_take]; omega), List.getElem?_eq_none (by rw [hlen, hL]; omega)]
theorem flat_one {α : Type} (f : α → Value) : ∀ l : List α, l.flatMap (fun x => [f x]) = l.map f
  | [] => rfl
  | a :: l => by rw [List.flatMap_cons, flat_one f l]; rfl
theorem WI.own {w : World} {B : Nat} {v : Value} {l : List Int} (h : WI w B v l) (hn : l.length ≤ 17592186043904) : IOwn w B v l := by
  obtain ⟨g, rfl, h1, h2⟩ := h
  have := rws_owns h2 (by omega) h1 (n := l.length) (by omega) (by unfold maxLen; omega) l (fun x => [vI x]) (fun _ => rfl) rfl (fun i hi => by
    unfold wideI
    rw [if_pos hi]
    simp [hi])
  rw [flat_one] at this
  exact this
theorem WL.lo {w : World} {B : Nat} {v : Value} {ls : List (List Int)} {g : Nat} {us : Nat → Value} (h : WL w B v ls g us) (hn : ls.length ≤ 5864062014634) (hll : ∀ l ∈ ls, l.length ≤ 17592186043904) : LO w B v ((List.range ls.length).map us) ls := by
  have hl : ((List.range ls.length).map us).length = ls.length := by simp
  refine ⟨?_, hl, fun i hi hi' => ?_, fun i j hi hj hne k e1 e2 => ?_⟩
  · have := rws_owns h.row (by omega) h.ge (n := ls.length) (by omega) (by unfold maxLen; omega) ((List.range ls.length).map us) (fun x => [x]) (fun _ => rfl) hl (fun i hi => by simp)
    rw [flat_one (fun x => x), List.map_id'] at this
    rw [h.val, hl]
    exact this
  · have e : ((List.range ls.length).map us)[i] = us i := by simp
    rw [e]
    exact (h.each i hi').own (hll _ (List.getElem_mem hi'))
  · have hi' : i < ls.length := by omega
    have hj' : j < ls.length := by omega
    have ei : ((List.range ls.length).map us)[i] = us i := by simp
    have ej : ((List.range ls.length).map us)[j] = us j := by simp
    rw [ei] at e1
    rw [ej] at e2
    exact h.apart i j hi' hj' hne (e1.trans e2.symm)
theorem WS1.so {w : World} {B : Nat} {h r : Value} {s : PS} {g : Nat} {us : Nat → Value} (x : WS1 w B h r s g us) (hf : s.H.length ≤ 17592186043904 ∧ s.R.length ≤ 5864062014634 ∧ ∀ l ∈ s.R, l.length ≤ 17592186043904) : SO w B h r ((List.range s.R.length).map us) s := by
  refine ⟨x.h.own hf.1, x.r.lo hf.2.1 hf.2.2, fun i hi k e1 e2 => ?_⟩
  have hi' : i < s.R.length := by simpa using hi
  have ei : ((List.range s.R.length).map us)[i] = us i := by simp
  rw [ei] at e1
  exact x.ap i hi' (e1.trans e2.symm)
def sumI (s : PS) (x : SumV) : SI := (s, x.h, x.r, (List.range s.R.length).map x.us)
theorem WSs.ssp {w : World} {B : Nat} {v : Value} {ss : List PS} {g : Nat} {xs : Nat → SumV} (h : WSs w B v ss g xs) (hf : FineS ss) : ∃ L : List SI, SsP w B v L ∧ L.map (·.1) = ss := by
  obtain ⟨L, hL⟩ : ∃ L : List SI, L = (List.range ss.length).map (fun i => sumI (ss.getD i ⟨[], []⟩) (xs i)) := ⟨_, rfl⟩
  have hlen : L.length = ss.length := by rw [hL]; simp
  have hget : ∀ i (h : i < L.length) (h' : i < ss.length), L[i] = sumI ss[i] (xs i) := fun i h h' => by
    subst hL
    simp [h']
  have hso : ∀ i (h : i < L.length) (h' : i < ss.length), SO w B L[i].2.1 L[i].2.2.1 L[i].2.2.2 L[i].1 := fun i hi h' => by
    rw [hget i hi h']
    exact (h.each i h').so (hf.2 _ (List.getElem_mem h'))
  refine ⟨L, ⟨⟨?_, fun x hx => ?_⟩, fun i j hi hj hne k e1 e2 => ?_⟩, ?_⟩
  · have := rws_owns h.row (by omega) h.ge (n := ss.length) (by omega) (by have := hf.1; unfold maxLen; omega) L rowS (fun _ => rfl) hlen (fun i hi => by rw [hget i hi (by omega)]; rfl)
    rw [h.val, hlen]
    exact this
  · obtain ⟨i, hi, rfl⟩ := List.mem_iff_getElem.1 hx
    exact hso i hi (by omega)
  · have hi' : i < ss.length := by omega
    have hj' : j < ss.length := by omega
    have cv : ∀ q (hq : q < ss.length), blkS (sumI ss[q] (xs q)) k → blW (xs q).h (xs q).us ss[q].R.length k := fun q hq hb => by
      rcases hb with hb | ⟨u, hu, hb⟩
      · exact Or.inl hb
      · obtain ⟨p, hp, rfl⟩ := List.mem_map.1 hu
        exact Or.inr ⟨p, List.mem_range.1 hp, hb⟩
    rw [hget i hi hi'] at e1
    rw [hget j hj hj'] at e2
    exact h.apart i j hi' hj' hne k (cv i hi' e1) (cv j hj' e2)
  · apply List.ext_getElem
    · simp [hlen]
    · intro i h1 h2
      rw [List.getElem_map, hget i (by simpa using h1) h2]
      rfl
structure ShS (s' s : PS) : Prop where
  h : s'.H.length = s.H.length
  r : s'.R.length = s.R.length
  rl : ∀ i (h : i < s.R.length) (h' : i < s'.R.length), s'.R[i].length = s.R[i].length
theorem ShS.refl (s : PS) : ShS s s := ⟨rfl, rfl, fun _ _ _ => rfl⟩
theorem ShS.setH {s' s : PS} (h : ShS s' s) (k : Nat) (d : Int) : ShS ⟨s'.H.set k d, s'.R⟩ s := ⟨by rw [List.length_set]; exact h.h, h.r, h.rl⟩
theorem ShS.setR {s' s : PS} (h : ShS s' s) {k : Nat} (hk : k < s'.R.length) (j : Nat) (d : Int) : ShS ⟨s'.H, s'.R.set k (s'.R[k].set j d)⟩ s := by
  refine ⟨h.h, by rw [List.length_set]; exact h.r, fun i hi hi' => ?_⟩
  have hi2 : i < s'.R.length := by simpa using hi'
  show ((s'.R.set k (s'.R[k].set j d))[i]).length = _
  rw [List.getElem_set]
  split
  · rename_i e
    subst e
    rw [List.length_set]
    exact h.rl k hi hk
  · exact h.rl i hi hi2
theorem ShS.fine {s' s : PS} (h : ShS s' s) (hf : s.H.length ≤ 17592186043904 ∧ s.R.length ≤ 5864062014634 ∧ ∀ l ∈ s.R, l.length ≤ 17592186043904) : s'.H.length ≤ 17592186043904 ∧ s'.R.length ≤ 5864062014634 ∧ ∀ l ∈ s'.R, l.length ≤ 17592186043904 := by
  refine ⟨by rw [h.h]; exact hf.1, by rw [h.r]; exact hf.2.1, fun l hl => ?_⟩
  obtain ⟨i, hi, rfl⟩ := List.mem_iff_getElem.1 hl
  have hi' : i < s.R.length := by have := h.r; omega
  rw [h.rl i hi' hi]
  exact hf.2.2 _ (List.getElem_mem hi')
def Abw (B : Nat) (v : Value) (al : List PS) (wr : World) : Prop := ∃ L, SsP wr B v L ∧ ∃ hl : L.length = al.length, ∀ i (h : i < L.length) (h' : i < al.length), ShS L[i].1 al[i]
theorem Abw.same {B : Nat} {wr wr' : World} {v : Value} {al : List PS} (h : Abw B v al wr) (f : Fr (fun _ => False) wr wr') : Abw B v al wr' := by
  obtain ⟨L, h1, h2, h3⟩ := h
  exact ⟨L, h1.stay f, h2, h3⟩
theorem Abw.far {S : Nat → Prop} {B : Nat} {wr wr' : World} {v : Value} {al : List PS} (h : Abw B v al wr) (f : Fr S wr wr') (hS : ∀ k, S k → k < B) : Abw B v al wr' := by
  obtain ⟨L, h1, h2, h3⟩ := h
  have no : ∀ k, B ≤ k → ¬ S k := fun k hk e => by have := hS k e; omega
  refine ⟨L, ⟨⟨ownsRow_frL h1.so.row f (fun k e => no k (World.ownsRow.lt h1.so.row k e).1), fun x hx => ?_⟩, h1.ap⟩, h2, h3⟩
  have hx := h1.so.each x hx
  exact hx.other f (fun k e => no k (hx.oh.ge k e).1) (fun k e => no k (World.ownsRow.lt hx.lo.row k e).1) (fun i hi k e => no k ((hx.lo.each i hi (by have := hx.lo.ul; omega)).ge k e).1)
theorem Abw.lies {B : Nat} {w : World} {v : Value} {al : List PS} (h : Abw B v al w) (hf : FineS al) : ∃ ss', SsA w v ss' ∧ FineS ss' := by
  obtain ⟨L, h1, h2, h3⟩ := h
  refine ⟨L.map (·.1), h1.so.sa, by rw [List.length_map, h2]; exact hf.1, fun s hs => ?_⟩
  obtain ⟨i, hi, rfl⟩ := List.mem_iff_getElem.1 hs
  have hi1 : i < L.length := by simpa using hi
  have hi' : i < al.length := by omega
  rw [List.getElem_map]
  exact (h3 i hi1 hi').fine (hf.2 _ (List.getElem_mem hi'))
theorem SsP.cells {w : World} {B i : Nat} {v : Value} {L : List SI} (h : SsP w B v L) (hi : i < L.length) :
    ∃ g cap, v = .slice (some ⟨g, 0, none⟩) L.length cap ∧ g < w.heap.size ∧ w.cell? ⟨g, i * 2, none⟩ = some L[i].2.1 ∧ w.cell? ⟨g, i * 2 + 1, none⟩ = some L[i].2.2.1 ∧ SO w B L[i].2.1 L[i].2.2.1 L[i].2.2.2 L[i].1 := by
  obtain ⟨g, cap, e, hg, c0⟩ := own_cell h.so.row (j := i * 2 + 0) (u := L[i].2.1) (by rw [flat_get rowS 2 (fun _ => rfl) L i 0 hi (by omega)]; rfl)
  obtain ⟨g', cap', e', -, c1⟩ := own_cell h.so.row (j := i * 2 + 1) (u := L[i].2.2.1) (by rw [flat_get rowS 2 (fun _ => rfl) L i 1 hi (by omega)]; rfl)
  subst e
  cases e'
  exact ⟨g, cap, rfl, hg, c0, c1, h.so.each L[i] (List.getElem_mem hi)⟩
theorem Abw.heapAt {B : Nat} {wr : World} {v : Value} {al : List PS} {i : Nat} (h : Abw B v al wr) (hi : i < al.length) :
    ∃ g cap hv rv, v = .slice (some ⟨g, 0, none⟩) al.length cap ∧ wr.cell? ⟨g, i * 2, none⟩ = some hv ∧ wr.cell? ⟨g, i * 2 + 1, none⟩ = some rv ∧ (∃ a c, hv = .slice a al[i].H.length c) ∧ (∃ a c, rv = .slice a al[i].R.length c) ∧
      (∀ k (hk : k < al[i].H.length), ∃ hg hc d, hv = .slice (some ⟨hg, 0, none⟩) al[i].H.length hc ∧ B ≤ hg ∧ wr.cell? ⟨hg, k, none⟩ = some (vI d) ∧ wr.frozen? ⟨hg, k, none⟩ = false ∧ ∀ x, Abw B v al (wr.setCell ⟨hg, k, none⟩ (vI x))) ∧
      (∀ k (hk : k < al[i].R.length), ∃ rg rc u, rv = .slice (some ⟨rg, 0, none⟩) al[i].R.length rc ∧ wr.cell? ⟨rg, k, none⟩ = some u ∧ (∃ a c, u = .slice a al[i].R[k].length c) ∧
        ∀ j (hj : j < al[i].R[k].length), ∃ ug uc d, u = .slice (some ⟨ug, 0, none⟩) al[i].R[k].length uc ∧ B ≤ ug ∧ wr.cell? ⟨ug, j, none⟩ = some (vI d) ∧ wr.frozen? ⟨ug, j, none⟩ = false ∧ ∀ x, Abw B v al (wr.setCell ⟨ug, j, none⟩ (vI x))) := by
  obtain ⟨L, h1, hl, h2⟩ := h
  have hi' : i < L.length := by rw [hl]; exact hi
  obtain ⟨g, cap, e, hg, c0, c1, hso⟩ := h1.cells hi'
  have hok := h2 i hi' hi
  have lH := hok.h
  have lR := hok.r
  have put : ∀ (s : PS) (hs : ShS s al[i]), ∃ hl2 : (L.set i (putS L[i] s)).length = al.length, ∀ q (hq : q < (L.set i (putS L[i] s)).length) (hq' : q < al.length), ShS (L.set i (putS L[i] s))[q].1 al[q] := fun s hs => ⟨by rw [List.length_set]; exact hl, fun q hq hq' => by
    have hq2 : q < L.length := by simpa using hq
    rw [List.getElem_set]
    split
    · rename_i e
      subst e
      exact hs
    · exact h2 q hq2 hq'⟩
  refine ⟨g, cap, _, _, by rw [e, hl], c0, c1, ?_, ?_, fun k hk => ?_, fun k hk => ?_⟩
  · obtain ⟨a, c, e1⟩ := own_slice hso.oh
    exact ⟨a, c, by rw [e1, lH]⟩
  · obtain ⟨a, c, e1⟩ := own_slice hso.lo.row
    exact ⟨a, c, by rw [e1, hso.lo.ul, lR]⟩
  · have hk' : k < L[i].1.H.length := by omega
    obtain ⟨hg, hc, e1, -, hcell⟩ := own_cell hso.oh (j := k) (u := vI L[i].1.H[k]) (by rw [List.getElem?_map, List.getElem?_eq_getElem hk']; rfl)
    have hb : L[i].2.1.ownBlock = some hg := by rw [e1]; rfl
    have hz : wr.frozen? ⟨hg, k, none⟩ = false := by
      have := hso.oh
      rw [e1] at this
      exact (row_setG (j := k) this (vI 0)).2
    refine ⟨hg, hc, L[i].1.H[k], by rw [e1, lH], (hso.oh.ge hg hb).1, hcell, hz, fun x => ?_⟩
    have f := setCell_fr wr hg k (vI x)
    exact ⟨_, h1.put hi' (Or.inl hb) f (hso.setH e1 k x), put _ (hok.setH k x)⟩
  · have hk' : k < L[i].1.R.length := by omega
    have hku : k < L[i].2.2.2.length := by have := hso.lo.ul; omega
    obtain ⟨rg, rc, e1, -, hcell⟩ := own_cell hso.lo.row (j := k) (u := L[i].2.2.2[k]) (List.getElem?_eq_getElem hku)
    have hui := hso.lo.each k hku hk'
    have lk := hok.rl k hk hk'
    refine ⟨rg, rc, L[i].2.2.2[k], by rw [e1, hso.lo.ul, lR], hcell, ?_, fun j hj => ?_⟩
    · obtain ⟨a, c, e2⟩ := own_slice hui
      exact ⟨a, c, by rw [e2, lk]⟩
    · have hj' : j < L[i].1.R[k].length := by omega
      obtain ⟨ug, uc, e2, -, hc2⟩ := own_cell hui (j := j) (u := vI L[i].1.R[k][j]) (by rw [List.getElem?_map, List.getElem?_eq_getElem hj']; rfl)
      have hb : L[i].2.2.2[k].ownBlock = some ug := by rw [e2]; rfl
      have hz : wr.frozen? ⟨ug, j, none⟩ = false := by
        have := hui
        rw [e2] at this
        exact (row_setG (j := j) this (vI 0)).2
      refine ⟨ug, uc, L[i].1.R[k][j], by rw [e2, lk], (hui.ge ug hb).1, hc2, hz, fun x => ?_⟩
      have f := setCell_fr wr ug j (vI x)
      exact ⟨_, h1.put hi' (Or.inr ⟨_, List.getElem_mem hku, hb⟩) f (hso.setR hku hk' e2 j x), put _ (hok.setR hk' j x)⟩
end Go.Proofs.YtlmlmhinbkcpoaaGreatDoor
