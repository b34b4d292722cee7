import Derived.Test.YtihicdbplmdjiaaGreatQE4J
import Derived.Test.YtihicdbplmdjiaaGreatQPlL0J
set_option linter.unusedVariables false
set_option linter.unusedSimpArgs false
namespace Go.Proofs.YtihicdbplmdjiaaGreat
open Go.RowKit (wrap32 wrap64)

/-! ### deciding: are two lists the same? -/

set_option maxRecDepth 100000 in
set_option maxHeartbeats 2000000 in
theorem eqInts_any (v1 v2 : Value) (zs ys : List Int) (w : World) (h1 : RowAt w v1 (zs.map vI)) (h2 : RowAt w v2 (ys.map vI)) (hl : zs.length ≤ 100000000000000) (hl2 : ys.length ≤ 100000000000000) :
    Calls Tryz.prog 10 #[v1, v2] w fun e w' => e = .returned (.bool (decide (zs = ys))) ∧ Fr (fun _ => False) w w' := by
  obtain ⟨a1, c1, rfl, h1⟩ := h1
  obtain ⟨a2, c2, rfl, h2⟩ := h2
  simp only [List.length_map] at h1 h2 ⊢
  obtain ⟨n, hn⟩ : ∃ n, n = zs.length := ⟨_, rfl⟩
  obtain ⟨m, hm⟩ : ∃ m, m = ys.length := ⟨_, rfl⟩
  obtain ⟨D, hD⟩ : ∃ D, D = decide (zs = ys) := ⟨_, rfl⟩
  rw [← hD, ← hn, ← hm]
  by_cases hnm : n = m
  · subst hnm
    have HN : Hd (n = zs.length ∧ n = ys.length) := ⟨hn, hm⟩
    have HD : Hd (D = decide (zs = ys)) := hD
    have H1 : Hd (0 < zs.length → ∃ k o, a1 = some ⟨k, o, none⟩ ∧ ∀ j (h : j < zs.length), w.cell? ⟨k, o + j, none⟩ = some (vI zs[j])) := fun hz => by
      obtain ⟨k, o, e1, e3⟩ := h1 (by intro e; rw [List.map_eq_nil_iff] at e; subst e; simp at hz)
      exact ⟨k, o, e1, fun j hj => by rw [e3 j hj]; simp⟩
    have H2 : Hd (0 < ys.length → ∃ k o, a2 = some ⟨k, o, none⟩ ∧ ∀ j (h : j < ys.length), w.cell? ⟨k, o + j, none⟩ = some (vI ys[j])) := fun hz => by
      obtain ⟨k, o, e1, e3⟩ := h2 (by intro e; rw [List.map_eq_nil_iff] at e; subst e; simp at hz)
      exact ⟨k, o, e1, fun j hj => by rw [e3 j hj]; simp⟩
    rw [← hn] at hl
    clear h1 h2 hn hm hD hl2
    go_enter Tryz.func10, Tryz.ntmps10
    go_wp2_with fail
    go_loopw [5] (fun v wr => ∃ i : Nat, v = .int .i64 i ∧ i ≤ n ∧ Hd (Fr (fun _ => False) w wr ∧ zs.take i = ys.take i)) (fun v _ => match v with | .int _ q => n - q.toNat | _ => 0)
    case atStart => exact ⟨0, rfl, by omega, Fr.refl _ _, rfl⟩
    case round =>
      obtain ⟨i, rfl, hi, HF⟩ := hrel
      by_cases hlt : i < n
      · have hlt' : (i : Int) < n := by omega
        have h0 : (0 : Int) ≤ i := by omega
        have hzl : i < zs.length := by have := HN.out; omega
        have hyl : i < ys.length := by have := HN.out; omega
        obtain ⟨k1, o1, rfl, hc1⟩ := H1.out (by omega)
        obtain ⟨k2, o2, rfl, hc2⟩ := H2.out (by omega)
        have d1 : wr.cell? ⟨k1, o1 + i, none⟩ = some (vI zs[i]) := (HF.out.1.cell (cell_lt (hc1 i hzl)) (fun h => h)).trans (hc1 i hzl)
        have d2 : wr.cell? ⟨k2, o2 + i, none⟩ = some (vI ys[i]) := (HF.out.1.cell (cell_lt (hc2 i hyl)) (fun h => h)).trans (hc2 i hyl)
        have et : zs.take (i + 1) = zs.take i ++ [zs[i]] := by rw [List.take_add_one, List.getElem?_eq_getElem hzl]; rfl
        have ey : ys.take (i + 1) = ys.take i ++ [ys[i]] := by rw [List.take_add_one, List.getElem?_eq_getElem hyl]; rfl
        have HE : Hd (zs[i] = ys[i] → zs.take (i + 1) = ys.take (i + 1)) := fun e => by rw [et, ey, HF.out.2, e]
        have HX : Hd (zs[i] ≠ ys[i] → D = false) := fun e => by
          rw [HD.out, decide_eq_false_iff_not]
          rintro rfl; exact e rfl
        obtain ⟨x, hx⟩ : ∃ x, x = zs[i] := ⟨_, rfl⟩
        obtain ⟨y, hy⟩ : ∃ y, y = ys[i] := ⟨_, rfl⟩
        rw [← hx] at d1 HE HX
        rw [← hy] at d2 HE HX
        clear hzl hyl hc1 hc2 hx hy H1 H2 et ey
        by_cases hxy : x = y
        · subst hxy
          go_wp2_with fail
          go_region
          all_goals go_wp2_with fail
          all_goals exact ⟨⟨i + 1, by simp, by omega, HF.out.1.drew, HE.out (by trivial)⟩, by simp; omega⟩
        · have hDf : D = false := HX.out hxy
          subst hDf
          have hne : (x == y) = false := by simpa using hxy
          go_wp2_with fail
          go_region
          all_goals go_wp2_with fail
          all_goals go_ret
          all_goals exact ⟨rfl, HF.out.1.drew⟩
      · have hlt' : decide (i < n) = false := by simp; omega
        have hDt : D = true := by
          have := HF.out.2
          rw [List.take_of_length_le (by have := HN.out; omega), List.take_of_length_le (by have := HN.out; omega)] at this
          rw [HD.out, this]; simp
        subst hDt
        clear hi
        go_wp2_with fail
        go_ret
        exact ⟨rfl, HF.out.1⟩
  · have hDf : D = false := by
      rw [hD, decide_eq_false_iff_not]
      rintro rfl; omega
    subst hDf
    have hnm' : ¬ ((n : Int) = m) := by omega
    have hnm2 : ((n : Int) == m) = false := by simpa using hnm'
    clear h1 h2 hD
    go_enter Tryz.func10, Tryz.ntmps10
    go_wp2_with fail
    go_ret
    exact ⟨rfl, Fr.refl _ _⟩

set_option maxRecDepth 100000 in
set_option maxHeartbeats 2000000 in
theorem eqStrings_any (v1 v2 : Value) (zs ys : List ByteArray) (w : World) (h1 : RowAt w v1 (zs.map Value.string)) (h2 : RowAt w v2 (ys.map Value.string)) (hl : zs.length ≤ 100000000000000) (hl2 : ys.length ≤ 100000000000000) :
    Calls Tryz.prog 46 #[v1, v2] w fun e w' => e = .returned (.bool (decide (zs = ys))) ∧ Fr (fun _ => False) w w' := by
  obtain ⟨a1, c1, rfl, h1⟩ := h1
  obtain ⟨a2, c2, rfl, h2⟩ := h2
  simp only [List.length_map] at h1 h2 ⊢
  obtain ⟨n, hn⟩ : ∃ n, n = zs.length := ⟨_, rfl⟩
  obtain ⟨m, hm⟩ : ∃ m, m = ys.length := ⟨_, rfl⟩
  obtain ⟨D, hD⟩ : ∃ D, D = decide (zs = ys) := ⟨_, rfl⟩
  rw [← hD, ← hn, ← hm]
  by_cases hnm : n = m
  · subst hnm
    have HN : Hd (n = zs.length ∧ n = ys.length) := ⟨hn, hm⟩
    have HD : Hd (D = decide (zs = ys)) := hD
    have H1 : Hd (0 < zs.length → ∃ k o, a1 = some ⟨k, o, none⟩ ∧ ∀ j (h : j < zs.length), w.cell? ⟨k, o + j, none⟩ = some (.string zs[j])) := fun hz => by
      obtain ⟨k, o, e1, e3⟩ := h1 (by intro e; rw [List.map_eq_nil_iff] at e; subst e; simp at hz)
      exact ⟨k, o, e1, fun j hj => by rw [e3 j hj]; simp⟩
    have H2 : Hd (0 < ys.length → ∃ k o, a2 = some ⟨k, o, none⟩ ∧ ∀ j (h : j < ys.length), w.cell? ⟨k, o + j, none⟩ = some (.string ys[j])) := fun hz => by
      obtain ⟨k, o, e1, e3⟩ := h2 (by intro e; rw [List.map_eq_nil_iff] at e; subst e; simp at hz)
      exact ⟨k, o, e1, fun j hj => by rw [e3 j hj]; simp⟩
    rw [← hn] at hl
    clear h1 h2 hn hm hD hl2
    go_enter Tryz.func46, Tryz.ntmps46
    go_wp2_with fail
    go_loopw [5] (fun v wr => ∃ i : Nat, v = .int .i64 i ∧ i ≤ n ∧ Hd (Fr (fun _ => False) w wr ∧ zs.take i = ys.take i)) (fun v _ => match v with | .int _ q => n - q.toNat | _ => 0)
    case atStart => exact ⟨0, rfl, by omega, Fr.refl _ _, rfl⟩
    case round =>
      obtain ⟨i, rfl, hi, HF⟩ := hrel
      by_cases hlt : i < n
      · have hlt' : (i : Int) < n := by omega
        have h0 : (0 : Int) ≤ i := by omega
        have hzl : i < zs.length := by have := HN.out; omega
        have hyl : i < ys.length := by have := HN.out; omega
        obtain ⟨k1, o1, rfl, hc1⟩ := H1.out (by omega)
        obtain ⟨k2, o2, rfl, hc2⟩ := H2.out (by omega)
        have d1 : wr.cell? ⟨k1, o1 + i, none⟩ = some (.string zs[i]) := (HF.out.1.cell (cell_lt (hc1 i hzl)) (fun h => h)).trans (hc1 i hzl)
        have d2 : wr.cell? ⟨k2, o2 + i, none⟩ = some (.string ys[i]) := (HF.out.1.cell (cell_lt (hc2 i hyl)) (fun h => h)).trans (hc2 i hyl)
        have et : zs.take (i + 1) = zs.take i ++ [zs[i]] := by rw [List.take_add_one, List.getElem?_eq_getElem hzl]; rfl
        have ey : ys.take (i + 1) = ys.take i ++ [ys[i]] := by rw [List.take_add_one, List.getElem?_eq_getElem hyl]; rfl
        have HE : Hd (zs[i] = ys[i] → zs.take (i + 1) = ys.take (i + 1)) := fun e => by rw [et, ey, HF.out.2, e]
        have HX : Hd (zs[i] ≠ ys[i] → D = false) := fun e => by
          rw [HD.out, decide_eq_false_iff_not]
          rintro rfl; exact e rfl
        obtain ⟨x, hx⟩ : ∃ x, x = zs[i] := ⟨_, rfl⟩
        obtain ⟨y, hy⟩ : ∃ y, y = ys[i] := ⟨_, rfl⟩
        rw [← hx] at d1 HE HX
        rw [← hy] at d2 HE HX
        clear hzl hyl hc1 hc2 hx hy H1 H2 et ey
        by_cases hxy : x = y
        · subst hxy
          go_wp2_with fail
          go_region
          all_goals go_wp2_with fail
          all_goals exact ⟨⟨i + 1, by simp, by omega, HF.out.1.drew, HE.out (by trivial)⟩, by simp; omega⟩
        · have hDf : D = false := HX.out hxy
          subst hDf
          have hne : (x.toList == y.toList) = false := by
            cases hb : (x.toList == y.toList) with
            | false => rfl
            | true => exact absurd (ba_inj (by simpa using hb)) hxy
          go_wp2_with fail
          go_region
          all_goals go_wp2_with fail
          all_goals go_ret
          all_goals exact ⟨rfl, HF.out.1.drew⟩
      · have hlt' : decide (i < n) = false := by simp; omega
        have hDt : D = true := by
          have := HF.out.2
          rw [List.take_of_length_le (by have := HN.out; omega), List.take_of_length_le (by have := HN.out; omega)] at this
          rw [HD.out, this]; simp
        subst hDt
        clear hi
        go_wp2_with fail
        go_ret
        exact ⟨rfl, HF.out.1⟩
  · have hDf : D = false := by
      rw [hD, decide_eq_false_iff_not]
      rintro rfl; omega
    subst hDf
    have hnm' : ¬ ((n : Int) = m) := by omega
    have hnm2 : ((n : Int) == m) = false := by simpa using hnm'
    clear h1 h2 hD
    go_enter Tryz.func46, Tryz.ntmps46
    go_wp2_with fail
    go_ret
    exact ⟨rfl, Fr.refl _ _⟩

/-! ### deciding: are two answers the same? -/
def rplB (a b : Rpl) : Bool := decide (a.ok = b.ok) && decide (a.val = b.val) && decide (a.keys = b.keys) && decide (a.vals = b.vals)
theorem rplB_iff {a b : Rpl} : rplB a b = true ↔ a = b := by
  unfold rplB
  simp only [Bool.and_eq_true, decide_eq_true_eq]
  constructor
  · rintro ⟨⟨⟨h1, h2⟩, h3⟩, h4⟩
    cases a; cases b
    simp only at h1 h2 h3 h4
    subst h1 h2 h3 h4; rfl
  · rintro rfl; exact ⟨⟨⟨rfl, rfl⟩, rfl⟩, rfl⟩
set_option maxRecDepth 100000 in
set_option maxHeartbeats 4000000 in
theorem eqReply_any (R1 R2 : RV) (w : World) (h1 : R1.At w) (h2 : R2.At w) (l1 : R1.r.keys.length ≤ 4000000000) (l2 : R2.r.keys.length ≤ 4000000000) (m1 : R1.r.vals.length ≤ 4000000000) (m2 : R2.r.vals.length ≤ 4000000000) :
    Calls Tryz.prog 21 #[R1.V, R2.V] w fun e w' => e = .returned (.bool (rplB R1.r R2.r)) ∧ Fr (fun _ => False) w w' := by
  unfold RV.V
  obtain ⟨⟨ok1, x1, ks1, vs1⟩, k1, u1⟩ := R1
  obtain ⟨⟨ok2, x2, ks2, vs2⟩, k2, u2⟩ := R2
  obtain ⟨hk1, hu1⟩ := h1
  obtain ⟨hk2, hu2⟩ := h2
  simp only at hk1 hu1 hk2 hu2 l1 l2 m1 m2 ⊢
  have C1 : ∀ W, Fr (fun _ => False) w W → Calls Tryz.prog 10 #[k1, k2] W fun e w' => e = .returned (.bool (decide (ks1 = ks2))) ∧ Fr (fun _ => False) W w' := fun W hW =>
    eqInts_any k1 k2 ks1 ks2 W (hk1.fr hW (fun _ _ _ h => h)) (hk2.fr hW (fun _ _ _ h => h)) (by omega) (by omega)
  have C2 : ∀ W, Fr (fun _ => False) w W → Calls Tryz.prog 46 #[u1, u2] W fun e w' => e = .returned (.bool (decide (vs1 = vs2))) ∧ Fr (fun _ => False) W w' := fun W hW =>
    eqStrings_any u1 u2 vs1 vs2 W (hu1.fr hW (fun _ _ _ h => h)) (hu2.fr hW (fun _ _ _ h => h)) (by omega) (by omega)
  obtain ⟨ka, kc, ek⟩ := row_slice hk1
  obtain ⟨ka2, kc2, ek2⟩ := row_slice hk2
  obtain ⟨va, vc, ev⟩ := row_slice hu1
  obtain ⟨va2, vc2, ev2⟩ := row_slice hu2
  simp only [List.length_map] at ek ek2 ev ev2
  obtain ⟨kn, hkn⟩ : ∃ n, n = ks1.length := ⟨_, rfl⟩
  obtain ⟨kn2, hkn2⟩ : ∃ n, n = ks2.length := ⟨_, rfl⟩
  obtain ⟨vn, hvn⟩ : ∃ n, n = vs1.length := ⟨_, rfl⟩
  obtain ⟨vn2, hvn2⟩ : ∃ n, n = vs2.length := ⟨_, rfl⟩
  rw [← hkn] at ek; rw [← hkn2] at ek2; rw [← hvn] at ev; rw [← hvn2] at ev2
  clear hkn hkn2 hvn hvn2 hk1 hk2 hu1 hu2 l1 l2 m1 m2
  subst ek ek2 ev ev2
  obtain ⟨D, hD⟩ : ∃ D, D = rplB ⟨ok1, x1, ks1, vs1⟩ ⟨ok2, x2, ks2, vs2⟩ := ⟨_, rfl⟩
  rw [← hD]
  have HD : Hd (D = (decide (ok1 = ok2) && decide (x1 = x2) && decide (ks1 = ks2) && decide (vs1 = vs2))) := by
    show _ = _
    rw [hD]; rfl
  clear hD
  obtain ⟨W, eW⟩ : ∃ W, W = ((w.alloc (.cells #[.bool ok1, .string x1, .slice ka kn kc, .slice va vn vc] 39)).alloc (.cells #[.bool ok2, .string x2, .slice ka2 kn2 kc2, .slice va2 vn2 vc2] 39)) := ⟨_, rfl⟩
  have f1 : Fr (fun _ => False) w W := by rw [eW]; exact ((Fr.refl _ w).alloc _).alloc _
  have b1 : W.heap[w.heap.size]? = some (.cells #[.bool ok1, .string x1, .slice ka kn kc, .slice va vn vc] 39) := by
    rw [eW, Go.RowKit.Below.heap_alloc _ _ _ (by simp)]; exact heap_alloc_last w _
  have b2 : W.heap[w.heap.size + 1]? = some (.cells #[.bool ok2, .string x2, .slice ka2 kn2 kc2, .slice va2 vn2 vc2] 39) := by
    have := heap_alloc_last (w.alloc (.cells #[.bool ok1, .string x1, .slice ka kn kc, .slice va vn vc] 39)) (.cells #[.bool ok2, .string x2, .slice ka2 kn2 kc2, .slice va2 vn2 vc2] 39)
    rw [show (w.alloc (.cells #[.bool ok1, .string x1, .slice ka kn kc, .slice va vn vc] 39)).heap.size = w.heap.size + 1 by simp] at this
    rw [eW]; exact this
  have F1 : Hd (Fr (fun _ => False) w W) := f1
  have B2' : Hd (W.heap[w.heap.size + 1]? = some (.cells #[.bool ok2, .string x2, .slice ka2 kn2 kc2, .slice va2 vn2 vc2] 39)) := b2
  have B1' : Hd (W.heap[w.heap.size]? = some (.cells #[.bool ok1, .string x1, .slice ka kn kc, .slice va vn vc] 39)) := b1
  clear f1 b1 b2
  go_enter Tryz.func21, Tryz.ntmps21
  go_upto_region 1 with fail
  rw [← eW]
  clear eW
  obtain ⟨bb, ebb⟩ : ∃ bb, bb = w.heap.size := ⟨_, rfl⟩
  rw [← ebb] at B1' B2' ⊢
  have d0 : W.cell? ⟨bb, 0, none⟩ = some (.bool ok1) := cell_of B1'.out 0
  have d1 : W.cell? ⟨bb, 1, none⟩ = some (.string x1) := cell_of B1'.out 1
  have d2 : W.cell? ⟨bb, 2, none⟩ = some (.slice ka kn kc) := cell_of B1'.out 2
  have e0 : W.cell? ⟨bb + 1, 0, none⟩ = some (.bool ok2) := cell_of B2'.out 0
  have e1 : W.cell? ⟨bb + 1, 1, none⟩ = some (.string x2) := cell_of B2'.out 1
  have e2 : W.cell? ⟨bb + 1, 2, none⟩ = some (.slice ka2 kn2 kc2) := cell_of B2'.out 2
  have HS : Hd (∀ W2, Fr (fun _ => False) W W2 → W2.cell? ⟨bb, 3, none⟩ = some (.slice va vn vc) ∧ W2.cell? ⟨bb + 1, 3, none⟩ = some (.slice va2 vn2 vc2)) := fun W2 h => ⟨(h.cell (heap_lt B1'.out) (fun h => h)).trans (cell_of B1'.out 3), (h.cell (heap_lt B2'.out) (fun h => h)).trans (cell_of B2'.out 3)⟩
  clear ebb B1' B2'
  by_cases ho : ok1 = ok2
  · subst ho
    by_cases hx : x1 = x2
    · subst hx
      go_wp2_with fail
      refine (C1 W F1.out).mono ?_
      rintro _ w1 ⟨rfl, hf1⟩
      obtain ⟨d3, e3⟩ := HS.out w1 hf1
      have F2 : Hd (Fr (fun _ => False) w w1) := F1.out.trans hf1
      clear C1 HS hf1 d0 d1 d2 e0 e1 e2
      by_cases hk : ks1 = ks2
      · have hkt : decide (ks1 = ks2) = true := by simpa using hk
        rw [hkt] at HD ⊢
        go_wp2_with fail
        refine (C2 w1 F2.out).mono ?_
        rintro _ w2 ⟨rfl, hf2⟩
        have F3 : Hd (Fr (fun _ => False) w w2) := F2.out.trans hf2
        have hDD : D = decide (vs1 = vs2) := by rw [HD.out]; simp
        clear C2 hf2 d3 e3 F2 F1
        go_wp2_with fail
        go_ret
        exact ⟨by rw [hDD]; rfl, F3.out⟩
      · have hkf : decide (ks1 = ks2) = false := by simpa using hk
        rw [hkf] at HD ⊢
        have hDD : D = false := by rw [HD.out]; simp
        subst hDD
        go_wp2_with fail
        go_ret
        exact ⟨rfl, F2.out⟩
    · have hne : (x1.toList == x2.toList) = false := by
        cases hb : (x1.toList == x2.toList) with
        | false => rfl
        | true => exact absurd (ba_inj (by simpa using hb)) hx
      have hDD : D = false := by rw [HD.out]; simp [hx]
      subst hDD
      go_wp2_with fail
      go_ret
      exact ⟨rfl, F1.out⟩
  · have hne : (ok1 == ok2) = false := by simpa using ho
    have hDD : D = false := by rw [HD.out]; simp [ho]
    subst hDD
    go_wp2_with fail
    go_ret
    exact ⟨rfl, F1.out⟩

theorem RowAt.rb {w : World} {v : Value} {xs : List Value} (h : RowAt w v xs) : RowB w w.heap.size v xs := by
  obtain ⟨ad, cap, e, hx⟩ := h
  refine ⟨ad, cap, e, fun hne => ?_⟩
  obtain ⟨g, o, ea, hc⟩ := hx hne
  exact ⟨g, o, ea, cell_lt (hc 0 (List.length_pos_iff.2 hne)), hc⟩
theorem nineS {w : World} {b t : Nat} {a0 a1 a2 a3 a4 a5 a6 a7 a8 : Value} (h : w.heap[b]? = some (.cells #[a0, a1, a2, a3, a4, a5, a6, a7, a8] t)) (x0 x1 x2 x3 x4 x5 x6 x7 x8 : Value) : (((((((((w.setCell ⟨b, 0, none⟩ x0).setCell ⟨b, 1, none⟩ x1).setCell ⟨b, 2, none⟩ x2).setCell ⟨b, 3, none⟩ x3).setCell ⟨b, 4, none⟩ x4).setCell ⟨b, 5, none⟩ x5).setCell ⟨b, 6, none⟩ x6).setCell ⟨b, 7, none⟩ x7).setCell ⟨b, 8, none⟩ x8).heap[b]? = some (.cells #[x0, x1, x2, x3, x4, x5, x6, x7, x8] t) := by
  have e0 : (w.setCell ⟨b, 0, none⟩ x0).heap[b]? = some (.cells #[x0, a1, a2, a3, a4, a5, a6, a7, a8] t) := set_of h 0 x0
  have e1 : ((w.setCell ⟨b, 0, none⟩ x0).setCell ⟨b, 1, none⟩ x1).heap[b]? = some (.cells #[x0, x1, a2, a3, a4, a5, a6, a7, a8] t) := set_of e0 1 x1
  have e2 : (((w.setCell ⟨b, 0, none⟩ x0).setCell ⟨b, 1, none⟩ x1).setCell ⟨b, 2, none⟩ x2).heap[b]? = some (.cells #[x0, x1, x2, a3, a4, a5, a6, a7, a8] t) := set_of e1 2 x2
  have e3 : ((((w.setCell ⟨b, 0, none⟩ x0).setCell ⟨b, 1, none⟩ x1).setCell ⟨b, 2, none⟩ x2).setCell ⟨b, 3, none⟩ x3).heap[b]? = some (.cells #[x0, x1, x2, x3, a4, a5, a6, a7, a8] t) := set_of e2 3 x3
  have e4 : (((((w.setCell ⟨b, 0, none⟩ x0).setCell ⟨b, 1, none⟩ x1).setCell ⟨b, 2, none⟩ x2).setCell ⟨b, 3, none⟩ x3).setCell ⟨b, 4, none⟩ x4).heap[b]? = some (.cells #[x0, x1, x2, x3, x4, a5, a6, a7, a8] t) := set_of e3 4 x4
  have e5 : ((((((w.setCell ⟨b, 0, none⟩ x0).setCell ⟨b, 1, none⟩ x1).setCell ⟨b, 2, none⟩ x2).setCell ⟨b, 3, none⟩ x3).setCell ⟨b, 4, none⟩ x4).setCell ⟨b, 5, none⟩ x5).heap[b]? = some (.cells #[x0, x1, x2, x3, x4, x5, a6, a7, a8] t) := set_of e4 5 x5
  have e6 : (((((((w.setCell ⟨b, 0, none⟩ x0).setCell ⟨b, 1, none⟩ x1).setCell ⟨b, 2, none⟩ x2).setCell ⟨b, 3, none⟩ x3).setCell ⟨b, 4, none⟩ x4).setCell ⟨b, 5, none⟩ x5).setCell ⟨b, 6, none⟩ x6).heap[b]? = some (.cells #[x0, x1, x2, x3, x4, x5, x6, a7, a8] t) := set_of e5 6 x6
  have e7 : ((((((((w.setCell ⟨b, 0, none⟩ x0).setCell ⟨b, 1, none⟩ x1).setCell ⟨b, 2, none⟩ x2).setCell ⟨b, 3, none⟩ x3).setCell ⟨b, 4, none⟩ x4).setCell ⟨b, 5, none⟩ x5).setCell ⟨b, 6, none⟩ x6).setCell ⟨b, 7, none⟩ x7).heap[b]? = some (.cells #[x0, x1, x2, x3, x4, x5, x6, x7, a8] t) := set_of e6 7 x7
  have e8 : (((((((((w.setCell ⟨b, 0, none⟩ x0).setCell ⟨b, 1, none⟩ x1).setCell ⟨b, 2, none⟩ x2).setCell ⟨b, 3, none⟩ x3).setCell ⟨b, 4, none⟩ x4).setCell ⟨b, 5, none⟩ x5).setCell ⟨b, 6, none⟩ x6).setCell ⟨b, 7, none⟩ x7).setCell ⟨b, 8, none⟩ x8).heap[b]? = some (.cells #[x0, x1, x2, x3, x4, x5, x6, x7, x8] t) := set_of e7 8 x8
  exact e8
theorem nineS_fr (w : World) (b : Nat) (x0 x1 x2 x3 x4 x5 x6 x7 x8 : Value) : Fr (fun k => k = b) w (((((((((w.setCell ⟨b, 0, none⟩ x0).setCell ⟨b, 1, none⟩ x1).setCell ⟨b, 2, none⟩ x2).setCell ⟨b, 3, none⟩ x3).setCell ⟨b, 4, none⟩ x4).setCell ⟨b, 5, none⟩ x5).setCell ⟨b, 6, none⟩ x6).setCell ⟨b, 7, none⟩ x7).setCell ⟨b, 8, none⟩ x8) :=
  ((((((((((Fr.refl (fun k => k = b) w).setCell ⟨b, 0, none⟩ x0 (Or.inl rfl)).setCell ⟨b, 1, none⟩ x1 (Or.inl rfl)).setCell ⟨b, 2, none⟩ x2 (Or.inl rfl)).setCell ⟨b, 3, none⟩ x3 (Or.inl rfl)).setCell ⟨b, 4, none⟩ x4 (Or.inl rfl)).setCell ⟨b, 5, none⟩ x5 (Or.inl rfl)).setCell ⟨b, 6, none⟩ x6 (Or.inl rfl)).setCell ⟨b, 7, none⟩ x7 (Or.inl rfl)).setCell ⟨b, 8, none⟩ x8 (Or.inl rfl))
theorem moment_res {w : World} {tmps : Array Value} {fn : Func} {p : Tmp} (h : fn.results = #[.cell p 41]) {g : Nat} {x0 x1 x2 x3 x4 x5 x6 x7 x8 : Value} (hp : tmps.getD p undef = .pointer (some ⟨g, 0, none⟩)) (hg : w.heap[g]? = some (.cells #[x0, x1, x2, x3, x4, x5, x6, x7, x8] 41)) : (results fn tmps).run Tryz.prog w = .ok (.agg #[x0, x1, x2, x3, x4, x5, x6, x7, x8]) w := by
  exact results_cell_row h tmps w g 41 _ (0, 0) _ hp hg Tryz.underlying41 rfl (by kernel_rfl)
/-- A moment with other lists. -/
def Mo.with (m : Mo) (kv vv : Value) : Mo := { m with R := ⟨m.R.r, kv, vv⟩ }
def CpM (m : Mo) (w w' : World) (e : Ending) : Prop := ∃ kv vv, e = .returned (.agg (m9 (m.with kv vv)).toArray) ∧ Fr (fun _ => False) w w' ∧ w'.ownsRow w.heap.size 3 1 kv m.R.r.keys.length (m.R.r.keys.map vI) ∧ w'.ownsRow w.heap.size 9 1 vv m.R.r.vals.length (m.R.r.vals.map Value.string)
set_option maxRecDepth 100000 in
set_option maxHeartbeats 4000000 in
theorem copyMoment_any (m : Mo) (w : World) (h : m.R.At w) (l1 : m.R.r.keys.length ≤ 1000000000000) (l2 : m.R.r.vals.length ≤ 1000000000000) :
    Calls Tryz.prog 18 #[.agg (m9 m).toArray] w fun e w' => CpM m w w' e := by
  unfold CpM Mo.with m9
  obtain ⟨cl, bg, kd, ky, x, ⟨⟨ok, val, ks, vs⟩, kv, vv⟩⟩ := m
  obtain ⟨hk, hv⟩ := h
  simp only at hk hv l1 l2 ⊢
  obtain ⟨ka, kc, ek⟩ := row_slice hk
  obtain ⟨va, vc, ev⟩ := row_slice hv
  subst ek ev
  simp only [List.length_map] at hk hv ⊢
  obtain ⟨kn, hkn⟩ : ∃ n, n = ks.length := ⟨_, rfl⟩
  obtain ⟨vn, hvn⟩ : ∃ n, n = vs.length := ⟨_, rfl⟩
  rw [← hkn] at hk ⊢
  rw [← hvn] at hv ⊢
  have C1 : ∀ W, Fr (fun _ => False) w W → Calls Tryz.prog 38 #[.slice ka kn kc] W fun e w' => ∃ v', e = .returned v' ∧ w'.ownsRow W.heap.size 3 1 v' kn (ks.map vI) ∧ Fr (fun _ => False) W w' := fun W hW => by
    have := copyInts_any (.slice ka kn kc) ks W.heap.size W (hk.fr hW (fun _ _ _ h => h)).rb (Nat.le_refl _) (by omega)
    rw [← hkn] at this; exact this
  have C2 : ∀ W, Fr (fun _ => False) w W → Calls Tryz.prog 39 #[.slice va vn vc] W fun e w' => ∃ v', e = .returned v' ∧ w'.ownsRow W.heap.size 9 1 v' vn (vs.map Value.string) ∧ Fr (fun _ => False) W w' := fun W hW => by
    have := copyStrings_any (.slice va vn vc) vs W.heap.size W (hv.fr hW (fun _ _ _ h => h)).rb (Nat.le_refl _) (by omega)
    rw [← hvn] at this; exact this
  obtain ⟨b, eb⟩ : ∃ b, b = w.heap.size := ⟨_, rfl⟩
  obtain ⟨W, eW⟩ : ∃ W, W = ((w.alloc (.cells #[vI cl, .bool bg, vI kd, vI ky, .string x, .bool ok, .string val, .slice ka kn kc, .slice va vn vc] 41)).alloc (.cells #[vI 0, .bool false, vI 0, vI 0, .string ⟨#[]⟩, .bool false, .string ⟨#[]⟩, .slice none 0 0, .slice none 0 0] 41)) := ⟨_, rfl⟩
  have f1 : Fr (fun _ => False) w W := by rw [eW]; exact ((Fr.refl _ w).alloc _).alloc _
  have b1 : W.heap[b]? = some (.cells #[vI cl, .bool bg, vI kd, vI ky, .string x, .bool ok, .string val, .slice ka kn kc, .slice va vn vc] 41) := by
    rw [eW, eb, Go.RowKit.Below.heap_alloc _ _ _ (by simp)]; exact heap_alloc_last w _
  have b2 : W.heap[b + 1]? = some (.cells #[vI 0, .bool false, vI 0, vI 0, .string ⟨#[]⟩, .bool false, .string ⟨#[]⟩, .slice none 0 0, .slice none 0 0] 41) := by
    have := heap_alloc_last (w.alloc (.cells #[vI cl, .bool bg, vI kd, vI ky, .string x, .bool ok, .string val, .slice ka kn kc, .slice va vn vc] 41)) (.cells #[vI 0, .bool false, vI 0, vI 0, .string ⟨#[]⟩, .bool false, .string ⟨#[]⟩, .slice none 0 0, .slice none 0 0] 41)
    rw [show (w.alloc (.cells #[vI cl, .bool bg, vI kd, vI ky, .string x, .bool ok, .string val, .slice ka kn kc, .slice va vn vc] 41)).heap.size = b + 1 by rw [eb]; simp] at this
    rw [eW]; exact this
  have sz : W.heap.size = b + 2 := by rw [eW, eb]; simp
  have F1 : Hd (Fr (fun _ => False) w W) := f1
  have B1 : Hd (W.heap[b]? = some (.cells #[vI cl, .bool bg, vI kd, vI ky, .string x, .bool ok, .string val, .slice ka kn kc, .slice va vn vc] 41)) := b1
  have B2 : Hd (W.heap[b + 1]? = some (.cells #[vI 0, .bool false, vI 0, vI 0, .string ⟨#[]⟩, .bool false, .string ⟨#[]⟩, .slice none 0 0, .slice none 0 0] 41)) := b2
  have SZ : Hd (W.heap.size = b + 2) := sz
  have EB : Hd (b = w.heap.size) := eb
  have EW : Hd (W = ((w.alloc (.cells #[vI cl, .bool bg, vI kd, vI ky, .string x, .bool ok, .string val, .slice ka kn kc, .slice va vn vc] 41)).alloc (.cells #[vI 0, .bool false, vI 0, vI 0, .string ⟨#[]⟩, .bool false, .string ⟨#[]⟩, .slice none 0 0, .slice none 0 0] 41))) := eW
  clear f1 b1 b2 sz hk hv hkn hvn l1 l2 eW eb
  go_enter Tryz.func18, Tryz.ntmps18
  go_upto_region 1 with fail
  rw [← EW.out, ← EB.out]
  clear EW
  have d7 : W.cell? ⟨b, 7, none⟩ = some (.slice ka kn kc) := cell_of B1.out 7
  go_wp2_with fail
  refine (C1 W F1.out).mono ?_
  rintro _ w1 ⟨v1, rfl, ho1, hf1⟩
  obtain ⟨k1, n1, rfl⟩ := row_val ho1
  have b1 : w1.heap[b]? = some (.cells #[vI cl, .bool bg, vI kd, vI ky, .string x, .bool ok, .string val, .slice ka kn kc, .slice va vn vc] 41) := (hf1.block b (heap_lt B1.out) (fun h => h)).trans B1.out
  have c2 : w1.heap[b + 1]? = some (.cells #[vI 0, .bool false, vI 0, vI 0, .string ⟨#[]⟩, .bool false, .string ⟨#[]⟩, .slice none 0 0, .slice none 0 0] 41) := (hf1.block (b + 1) (heap_lt B2.out) (fun h => h)).trans B2.out
  have z7 : w1.frozen? ⟨b, 7, none⟩ = false := frozen_of b1 7
  have y7 : w1.cell? ⟨b, 7, none⟩ = some (.slice ka kn kc) := cell_of b1 7
  obtain ⟨W2, eW2⟩ : ∃ W2, W2 = w1.setCell ⟨b, 7, none⟩ (.slice k1 kn n1) := ⟨_, rfl⟩
  have fs : Fr (fun k => k = b) w1 W2 := by rw [eW2]; exact (Fr.refl _ w1).setCell _ _ (Or.inl rfl)
  have b3 : W2.heap[b]? = some (.cells #[vI cl, .bool bg, vI kd, vI ky, .string x, .bool ok, .string val, .slice k1 kn n1, .slice va vn vc] 41) := by rw [eW2, set_of b1]; rfl
  have B3 : Hd (W2.heap[b]? = some (.cells #[vI cl, .bool bg, vI kd, vI ky, .string x, .bool ok, .string val, .slice k1 kn n1, .slice va vn vc] 41)) := b3
  have B4 : Hd (W2.heap[b + 1]? = some (.cells #[vI 0, .bool false, vI 0, vI 0, .string ⟨#[]⟩, .bool false, .string ⟨#[]⟩, .slice none 0 0, .slice none 0 0] 41)) := (fs.block (b + 1) (heap_lt c2) (by omega)).trans c2
  have F2 : Hd (Fr (fun _ => False) w W2) := (F1.out.trans hf1).under fs (fun j e => by have := EB.out; omega)
  have hsz1 : b + 2 ≤ w1.heap.size := by have := hf1.size; have := SZ.out; omega
  have hsz2 : W2.heap.size = w1.heap.size := by rw [eW2]; simp
  have O1 : Hd (W2.ownsRow (b + 2) 3 1 (.slice k1 kn n1) kn (ks.map vI)) := by
    have := ownsRow_fr ho1 fs (fun g e e2 => by have := (World.ownsRow.lt ho1 g e).1; have := SZ.out; omega)
    rw [SZ.out] at this; exact this
  have EW2 : Hd (W2 = w1.setCell ⟨b, 7, none⟩ (.slice k1 kn n1)) := eW2
  have SZ2 : Hd (b + 2 ≤ W2.heap.size) := by show _ ≤ _; omega
  clear b1 c2 fs b3 hsz1 hsz2 ho1 hf1 eW2 C1 d7
  go_upto_region 2 with fail
  rw [← EW2.out]
  clear EW2 y7 z7
  have d8 : W2.cell? ⟨b, 8, none⟩ = some (.slice va vn vc) := cell_of B3.out 8
  go_wp2_with fail
  refine (C2 W2 F2.out).mono ?_
  rintro _ w3 ⟨v2, rfl, ho2, hf2⟩
  obtain ⟨k2, n2, rfl⟩ := row_val ho2
  have b1 : w3.heap[b]? = some (.cells #[vI cl, .bool bg, vI kd, vI ky, .string x, .bool ok, .string val, .slice k1 kn n1, .slice va vn vc] 41) := (hf2.block b (heap_lt B3.out) (fun h => h)).trans B3.out
  have c2 : w3.heap[b + 1]? = some (.cells #[vI 0, .bool false, vI 0, vI 0, .string ⟨#[]⟩, .bool false, .string ⟨#[]⟩, .slice none 0 0, .slice none 0 0] 41) := (hf2.block (b + 1) (heap_lt B4.out) (fun h => h)).trans B4.out
  have z8 : w3.frozen? ⟨b, 8, none⟩ = false := frozen_of b1 8
  have y8 : w3.cell? ⟨b, 8, none⟩ = some (.slice va vn vc) := cell_of b1 8
  obtain ⟨W4, eW4⟩ : ∃ W4, W4 = w3.setCell ⟨b, 8, none⟩ (.slice k2 vn n2) := ⟨_, rfl⟩
  have fs : Fr (fun k => k = b) w3 W4 := by rw [eW4]; exact (Fr.refl _ w3).setCell _ _ (Or.inl rfl)
  have b3 : W4.heap[b]? = some (.cells #[vI cl, .bool bg, vI kd, vI ky, .string x, .bool ok, .string val, .slice k1 kn n1, .slice k2 vn n2] 41) := by rw [eW4, set_of b1]; rfl
  have B5 : Hd (W4.heap[b]? = some (.cells #[vI cl, .bool bg, vI kd, vI ky, .string x, .bool ok, .string val, .slice k1 kn n1, .slice k2 vn n2] 41)) := b3
  have B6 : Hd (W4.heap[b + 1]? = some (.cells #[vI 0, .bool false, vI 0, vI 0, .string ⟨#[]⟩, .bool false, .string ⟨#[]⟩, .slice none 0 0, .slice none 0 0] 41)) := (fs.block (b + 1) (heap_lt c2) (by omega)).trans c2
  have F4 : Hd (Fr (fun _ => False) w W4) := (F2.out.trans hf2).under fs (fun j e => by have := EB.out; omega)
  have O1' : Hd (W4.ownsRow (b + 2) 3 1 (.slice k1 kn n1) kn (ks.map vI)) :=
    ownsRow_fr (ownsRow_fr O1.out hf2 (fun _ _ h => h)) fs (fun g e e2 => by have := (World.ownsRow.lt O1.out g e).1; omega)
  have O2 : Hd (W4.ownsRow (b + 2) 9 1 (.slice k2 vn n2) vn (vs.map Value.string)) :=
    ownsRow_fr (World.ownsRow.mono ho2 SZ2.out) fs (fun g e e2 => by have := (World.ownsRow.lt ho2 g e).1; have := SZ2.out; omega)
  have EW4 : Hd (W4 = w3.setCell ⟨b, 8, none⟩ (.slice k2 vn n2)) := eW4
  clear b1 c2 fs b3 ho2 hf2 eW4 C2 d8 B3 B4 O1
  go_upto_region 3 with fail
  rw [← EW4.out]
  clear EW4 y8 z8
  have r0 := nine B5.out
  obtain ⟨p0, p1, p2, p3, p4, p5, p6, p7, p8⟩ := r0
  obtain ⟨q0, q1, q2, q3, q4, q5, q6, q7, q8⟩ := nine B6.out
  have g0 : W4.frozen? ⟨b + 1, 0, none⟩ = false := frozen_of B6.out 0
  have g1 : W4.frozen? ⟨b + 1, 1, none⟩ = false := frozen_of B6.out 1
  have g2 : W4.frozen? ⟨b + 1, 2, none⟩ = false := frozen_of B6.out 2
  have g3 : W4.frozen? ⟨b + 1, 3, none⟩ = false := frozen_of B6.out 3
  have g4 : W4.frozen? ⟨b + 1, 4, none⟩ = false := frozen_of B6.out 4
  have g5 : W4.frozen? ⟨b + 1, 5, none⟩ = false := frozen_of B6.out 5
  have g6 : W4.frozen? ⟨b + 1, 6, none⟩ = false := frozen_of B6.out 6
  have g7 : W4.frozen? ⟨b + 1, 7, none⟩ = false := frozen_of B6.out 7
  have g8 : W4.frozen? ⟨b + 1, 8, none⟩ = false := frozen_of B6.out 8
  go_wp2_with fail
  have fz := nineS_fr W4 (b + 1) (vI cl) (.bool bg) (vI kd) (vI ky) (.string x) (.bool ok) (.string val) (.slice k1 kn n1) (.slice k2 vn n2)
  refine bodyPost_ret (moment_res Tryz.results18 rfl (nineS B6.out (vI cl) (.bool bg) (vI kd) (vI ky) (.string x) (.bool ok) (.string val) (.slice k1 kn n1) (.slice k2 vn n2))) rfl ⟨.slice k1 kn n1, .slice k2 vn n2, rfl, F4.out.under fz (fun j e => by have := EB.out; omega), ?_, ?_⟩
  · refine World.ownsRow.mono (ownsRow_fr O1'.out fz (fun g e e2 => ?_)) (by have := EB.out; omega)
    have := (World.ownsRow.lt O1'.out g e).1; omega
  · refine World.ownsRow.mono (ownsRow_fr O2.out fz (fun g e e2 => ?_)) (by have := EB.out; omega)
    have := (World.ownsRow.lt O2.out g e).1; omega

/-! ### moments in a row of one's own -/
theorem und22 : Tryz.prog.underlying 29 = some (.slice 41) := by kernel_rfl
theorem info30 : (Tryz.prog.info? 41).map (fun i => (i.zero, i.size, i.bytes)) = some (some (.agg #[vI 0, .bool false, vI 0, vI 0, .string ⟨#[]⟩, .bool false, .string ⟨#[]⟩, .slice none 0 0, .slice none 0 0]), 9, 120) := by kernel_rfl
def MsOwn (w : World) (B : Nat) (v : Value) (ms : List Mo) : Prop := w.ownsRow B 41 9 v ms.length ((ms.map m9).flatten)
theorem MsOwn.fr {S : Nat → Prop} {w w' : World} {B : Nat} {v : Value} {ms : List Mo} (h : MsOwn w B v ms) (f : Fr S w w') (hS : ∀ j, v.ownBlock = some j → ¬ S j) : MsOwn w' B v ms := ownsRow_fr h f hS
theorem MsOwn.app {w : World} {B : Nat} {v : Value} {ms : List Mo} (h : MsOwn w B v ms) (hB : B ≤ w.heap.size) (m : Mo) (hk : ∃ a n q, m.R.kv = .slice a n q) (hv : ∃ a n q, m.R.vv = .slice a n q) (hl : ms.length ≤ 5000000000) :
    ∃ g cap w2, (Builtin.append_ #[29, 29] 29 #[v, .slice (some ⟨w.heap.size, 0, none⟩) 1 1]).run Tryz.prog (w.alloc (.cells (m9 m).toArray 41)) = .ok (.slice (some ⟨g, 0, none⟩) (ms.length + 1) cap) w2 ∧ MsOwn w2 B (.slice (some ⟨g, 0, none⟩) (ms.length + 1) cap) (ms ++ [m]) ∧ Fr (fun j => v.ownBlock = some j) w w2 ∧ (v.ownBlock = some g ∨ g = w.heap.size + 1) := by
  obtain ⟨a1, n1, q1, e1⟩ := hk
  obtain ⟨a2, n2, q2, e2⟩ := hv
  obtain ⟨g, cap, w2, h1, h2, h3, h4⟩ := app1 und22 info30 rfl (by omega) h (m9 m).toArray rfl (by
    intro u hu
    unfold m9 at hu
    rw [e1, e2] at hu
    simp at hu
    rcases hu with rfl | rfl | rfl | rfl | rfl | rfl | rfl | rfl | rfl <;> rfl) (by unfold maxLen; omega) (by omega) hB
  refine ⟨g, cap, w2, h1, ?_, h3, h4⟩
  unfold MsOwn
  rw [List.length_append, List.map_append, List.flatten_append]
  simpa using h2

/-- A moment and its copy: the copy's lists are one's own, and lie apart from the row. -/
structure MCp (w : World) (B : Nat) (lv : Value) (m m' : Mo) : Prop where
  eq : ∃ kv vv, m' = m.with kv vv
  ks : w.ownsRow B 3 1 m'.R.kv m.R.r.keys.length (m.R.r.keys.map vI)
  vs : w.ownsRow B 9 1 m'.R.vv m.R.r.vals.length (m.R.r.vals.map Value.string)
  nk : ∀ g, lv.ownBlock = some g → m'.R.kv.ownBlock ≠ some g
  nv : ∀ g, lv.ownBlock = some g → m'.R.vv.ownBlock ≠ some g
def Cps (w : World) (B : Nat) (lv : Value) (h ms : List Mo) : Prop := MsOwn w B lv ms ∧ ∀ (k : Nat) (m' : Mo), ms[k]? = some m' → ∃ m : Mo, h[k]? = some m ∧ MCp w B lv m m'
def CpH (h : List Mo) (w w' : World) (e : Ending) : Prop := ∃ lv ms, e = .returned lv ∧ Fr (fun _ => False) w w' ∧ ms.length = h.length ∧ Cps w' w.heap.size lv h ms
theorem MCp.fr {S : Nat → Prop} {w w' : World} {B : Nat} {lv lv' : Value} {m m' : Mo} (h : MCp w B lv m m') (f : Fr S w w') (hS : ∀ j, S j → lv.ownBlock = some j) (hl : ∀ g, lv'.ownBlock = some g → lv.ownBlock = some g ∨ w.heap.size ≤ g) : MCp w' B lv' m m' :=
  ⟨h.eq, ownsRow_fr h.ks f (fun g e e2 => h.nk g (hS g e2) e), ownsRow_fr h.vs f (fun g e e2 => h.nv g (hS g e2) e),
    fun g e e2 => by
      rcases hl g e with e3 | e3
      · exact h.nk g e3 e2
      · have := (World.ownsRow.lt h.ks g e2).2; omega,
    fun g e e2 => by
      rcases hl g e with e3 | e3
      · exact h.nv g e3 e2
      · have := (World.ownsRow.lt h.vs g e2).2; omega⟩
/-- One moment more is copied, and goes behind the others. -/
theorem Cps.app {w w1 w2 : World} {B i : Nat} {lv : Value} {h ms : List Mo} {m : Mo} {kv vv : Value} (hc : Cps w B lv h ms) (hB : B ≤ w.heap.size) (hi : ms.length = i) (hm : h[i]? = some m) (hf : Fr (fun _ => False) w w1) (hk : w1.ownsRow w.heap.size 3 1 kv m.R.r.keys.length (m.R.r.keys.map vI)) (hv : w1.ownsRow w.heap.size 9 1 vv m.R.r.vals.length (m.R.r.vals.map Value.string)) (hf2 : Fr (fun _ => False) w1 w2) (hl : i ≤ 5000000000) :
    ∃ g cap w4, (Builtin.append_ #[29, 29] 29 #[lv, .slice (some ⟨w2.heap.size, 0, none⟩) 1 1]).run Tryz.prog (w2.alloc (.cells (m9 (m.with kv vv)).toArray 41)) = .ok (.slice (some ⟨g, 0, none⟩) (i + 1) cap) w4 ∧ Cps w4 B (.slice (some ⟨g, 0, none⟩) (i + 1) cap) h (ms ++ [m.with kv vv]) ∧ Fr (fun j => lv.ownBlock = some j) w2 w4 := by
  subst hi
  have fA := hf.trans hf2
  obtain ⟨k1, n1, e1⟩ := row_val hk
  obtain ⟨k2, n2, e2⟩ := row_val hv
  obtain ⟨g, cap, w4, h1, h2, h3, h4⟩ := (hc.1.fr fA (fun _ _ e => e)).app (Nat.le_trans hB fA.size) (m.with kv vv) ⟨_, _, _, e1⟩ ⟨_, _, _, e2⟩ hl
  refine ⟨g, cap, w4, h1, ⟨h2, fun k m' hk' => ?_⟩, h3⟩
  have hgl : ∀ g', (Value.slice (some ⟨g, 0, none⟩) (ms.length + 1) cap).ownBlock = some g' → lv.ownBlock = some g' ∨ w2.heap.size ≤ g' := fun g' e => by
    have : g = g' := by simpa [Value.ownBlock] using e
    subst this
    rcases h4 with h4 | h4
    · exact Or.inl h4
    · exact Or.inr (by omega)
  have hlvw : ∀ g', lv.ownBlock = some g' → g' < w.heap.size := fun g' e => (World.ownsRow.lt hc.1 g' e).2
  by_cases hkl : k < ms.length
  · rw [List.getElem?_append_left hkl] at hk'
    obtain ⟨m0, hm0, hcp⟩ := hc.2 k m' hk'
    exact ⟨m0, hm0, (hcp.fr fA (fun _ h => h.elim) (fun g e => Or.inl e)).fr h3 (fun _ h => h) hgl⟩
  · have hke : k = ms.length := by
      have := (List.getElem?_eq_some_iff.1 hk').1
      simp at this; omega
    subst hke
    have hm' : m' = m.with kv vv := by simpa using hk'.symm
    subst hm'
    refine ⟨m, hm, ?_⟩
    have q : MCp w1 B lv m (m.with kv vv) := ⟨⟨kv, vv, rfl⟩, World.ownsRow.mono hk hB, World.ownsRow.mono hv hB, fun g e e2 => by have := hlvw g e; have := (World.ownsRow.lt hk g e2).1; omega, fun g e e2 => by have := hlvw g e; have := (World.ownsRow.lt hv g e2).1; omega⟩
    exact (q.fr hf2 (fun _ h => h.elim) (fun g e => Or.inl e)).fr h3 (fun _ h => h) hgl

set_option maxRecDepth 100000 in
set_option maxHeartbeats 4000000 in
/-- CopyHistory. -/
theorem copyHistory_any (hv : Value) (h : List Mo) (w : World) (hh : HAt w hv h) (hl : h.length ≤ 5000000000) (hL : ∀ m ∈ h, m.R.r.keys.length ≤ 1000000000000 ∧ m.R.r.vals.length ≤ 1000000000000) :
    Calls Tryz.prog 8 #[hv] w fun e w' => CpH h w w' e := by
  obtain ⟨ad, cap, rfl, h1, h2⟩ := hh
  have HX : Hd (∀ i (hi : i < h.length), ∃ g o, ad = some ⟨g, o, none⟩ ∧ ∀ W, Fr (fun _ => False) w W → ∀ j, j < 9 → W.cell? ⟨g, o + i * 9 + j, none⟩ = (m9 h[i])[j]?) := fun i hi => by
    obtain ⟨g, o, ea, hc⟩ := h1 (fun e => by rw [e] at hi; simp at hi)
    refine ⟨g, o, ea, fun W f j hj => (f.cell ?_ (fun e => e)).trans (hc i hi j hj)⟩
    have := hc i hi j hj
    rw [List.getElem?_eq_getElem (by exact hj)] at this
    exact cell_lt this
  have HM : Hd (∀ m ∈ h, m.R.At w ∧ m.R.r.keys.length ≤ 1000000000000 ∧ m.R.r.vals.length ≤ 1000000000000) := fun m hm => ⟨(h2 m hm).1, hL m hm⟩
  obtain ⟨n, en⟩ : ∃ n, n = h.length := ⟨_, rfl⟩
  have EN : Hd (n = h.length) := en
  rw [← en] at hl ⊢
  clear h1 h2 en hL
  go_enter Tryz.func8, Tryz.ntmps8
  go_wp2_with fail
  go_loopw [3, 4] (fun v3 v4 wr => ∃ k : Nat, ∃ ms : List Mo, v4 = vI k ∧ k ≤ n ∧ ms.length = k ∧ Hd (Fr (fun _ => False) w wr ∧ Cps wr w.heap.size v3 h ms)) (fun _ v _ => match v with | .int _ q => n - q.toNat | _ => 0)
  case atStart => exact ⟨0, [], rfl, by omega, rfl, Fr.refl _ _, World.ownsRow_nil _ _ _ _, fun k m' e => by simp at e⟩
  case round =>
    obtain ⟨k, ms, rfl, hk, hms, HR⟩ := hrel
    by_cases hlt : k < n
    · have k0 : (0 : Int) ≤ k := by omega
      have k1 : (k : Int) < n := by omega
      have hkl : k < h.length := by rw [← EN.out]; exact hlt
      obtain ⟨g, o, rfl, hc0⟩ := HX.out k hkl
      have hc := hc0 wr HR.out.1
      obtain ⟨m, em⟩ : ∃ m, m = h[k] := ⟨_, rfl⟩
      have HMK : Hd (h[k]? = some m ∧ m.R.At wr ∧ m.R.r.keys.length ≤ 1000000000000 ∧ m.R.r.vals.length ≤ 1000000000000) := ⟨by rw [List.getElem?_eq_getElem hkl, em], by rw [em]; exact ⟨(HM.out _ (List.getElem_mem hkl)).1.fr HR.out.1, (HM.out _ (List.getElem_mem hkl)).2⟩⟩
      rw [← em] at hc
      have HCP : Hd (Calls Tryz.prog 18 #[.agg (m9 m).toArray] wr fun e w' => CpM m wr w' e) := copyMoment_any m wr HMK.out.2.1 HMK.out.2.2.1 HMK.out.2.2.2
      unfold m9 at hc
      have x0 := hc 0 (by omega)
      have x1 := hc 1 (by omega)
      have x2 := hc 2 (by omega)
      have x3 := hc 3 (by omega)
      have x4 := hc 4 (by omega)
      have x5 := hc 5 (by omega)
      have x6 := hc 6 (by omega)
      have x7 := hc 7 (by omega)
      have x8 := hc 8 (by omega)
      simp only [List.getElem?_cons_zero, List.getElem?_cons_succ, Nat.add_zero] at x0 x1 x2 x3 x4 x5 x6 x7 x8
      clear em hc hc0 hkl
      go_upto_region 5 with fail
      go_wp2_with fail
      refine HCP.out.mono ?_
      rintro _ w1 ⟨kv, vv, rfl, hf1, ho1, ho2⟩
      unfold Mo.with m9
      obtain ⟨ka, kc, rfl⟩ := row_val ho1
      obtain ⟨va, vc, rfl⟩ := row_val ho2
      have HO : Hd (Fr (fun _ => False) wr w1 ∧ w1.ownsRow wr.heap.size 3 1 (.slice ka m.R.r.keys.length kc) m.R.r.keys.length (m.R.r.keys.map vI) ∧ w1.ownsRow wr.heap.size 9 1 (.slice va m.R.r.vals.length vc) m.R.r.vals.length (m.R.r.vals.map Value.string)) := ⟨hf1, ho1, ho2⟩
      clear hf1 ho1 ho2 x0 x1 x2 x3 x4 x5 x6 x7 x8 HCP
      go_upto_region 6 with fail
      obtain ⟨W2, eW2⟩ : ∃ W2, W2 = w1.alloc (.cells #[.int .i64 m.c, .bool m.beg, .int .i64 m.kd, .int .i64 m.ky, .string m.v, .bool m.R.r.ok, .string m.R.r.val, .slice ka m.R.r.keys.length kc, .slice va m.R.r.vals.length vc] 41) := ⟨_, rfl⟩
      have hb := heap_alloc_last w1 (.cells #[.int .i64 m.c, .bool m.beg, .int .i64 m.kd, .int .i64 m.ky, .string m.v, .bool m.R.r.ok, .string m.R.r.val, .slice ka m.R.r.keys.length kc, .slice va m.R.r.vals.length vc] 41)
      have hf := (Fr.refl (fun _ => False) w1).alloc (.cells #[.int .i64 m.c, .bool m.beg, .int .i64 m.kd, .int .i64 m.ky, .string m.v, .bool m.R.r.ok, .string m.R.r.val, .slice ka m.R.r.keys.length kc, .slice va m.R.r.vals.length vc] 41)
      rw [← eW2] at hb hf ⊢
      obtain ⟨y0, y1, y2, y3, y4, y5, y6, y7, y8⟩ := nine hb
      obtain ⟨pb, epb⟩ : ∃ pb, pb = w1.heap.size := ⟨_, rfl⟩
      rw [← epb] at y0 y1 y2 y3 y4 y5 y6 y7 y8 ⊢
      obtain ⟨g2, cap2, w4, hr, hcp, hf4⟩ := Cps.app HR.out.2 HR.out.1.size hms HMK.out.1 HO.out.1 HO.out.2.1 HO.out.2.2 hf (by omega)
      have HA : Hd ((Builtin.append_ #[29, 29] 29 #[u3, .slice (some ⟨W2.heap.size, 0, none⟩) 1 1]).run Tryz.prog (W2.alloc (.cells #[.int .i64 m.c, .bool m.beg, .int .i64 m.kd, .int .i64 m.ky, .string m.v, .bool m.R.r.ok, .string m.R.r.val, .slice ka m.R.r.keys.length kc, .slice va m.R.r.vals.length vc] 41)) = .ok (.slice (some ⟨g2, 0, none⟩) (k + 1) cap2) w4) := hr
      have HE : Hd (Fr (fun _ => False) w w4 ∧ Cps w4 w.heap.size (.slice (some ⟨g2, 0, none⟩) (k + 1) cap2) h (ms ++ [m.with (.slice ka m.R.r.keys.length kc) (.slice va m.R.r.vals.length vc)])) :=
        ⟨((HR.out.1.trans HO.out.1).trans hf).under hf4 (fun j e => (World.ownsRow.lt HR.out.2.1 j e).1), hcp⟩
      clear hb hf eW2 epb hr hcp hf4 HO HMK HR HX HM
      go_wp2_with (at_builtin; refine wpList_append_run rfl (.tmp 17) (.tmp 19) 29 rfl _ _ _ rfl rfl HA.out ?_)
      exact ⟨⟨k + 1, _, by simp, by omega, by simp [hms], HE.out⟩, by simp; omega⟩
    · have hlt' : decide (k < n) = false := by simp; omega
      have ek : k = n := by omega
      subst ek
      clear hk
      go_wp2_with fail
      go_ret
      exact ⟨_, ms, rfl, HR.out.1, by rw [hms]; exact EN.out, HR.out.2⟩

theorem RowB.ra {w : World} {B : Nat} {v : Value} {xs : List Value} (h : RowB w B v xs) : RowAt w v xs := by
  obtain ⟨ad, cap, e, hx⟩ := h
  refine ⟨ad, cap, e, fun hne => ?_⟩
  obtain ⟨g, o, ea, -, hc⟩ := hx hne
  exact ⟨g, o, ea, hc⟩
theorem m9_len (m : Mo) : (m9 m).length = 9 := rfl
theorem MsOwn.at {w : World} {B : Nat} {v : Value} {ms : List Mo} (h : MsOwn w B v ms) : ∃ ad cap, v = .slice ad ms.length cap ∧ (ms ≠ [] → ∃ g o, ad = some ⟨g, o, none⟩ ∧ ∀ i (h : i < ms.length) j, j < 9 → w.cell? ⟨g, o + i * 9 + j, none⟩ = (m9 ms[i])[j]?) := by
  rcases h.2 with ⟨e1, e2⟩ | ⟨g, cap, cur, e, b1, b2, b3, b4, b5, b6⟩
  · exact ⟨none, 0, by rw [e1, e2], fun hne => absurd (List.eq_nil_of_length_eq_zero e2) hne⟩
  · refine ⟨_, cap, e, fun hne => ⟨g, 0, rfl, fun i hi j hj => ?_⟩⟩
    rw [cell_of b2, Nat.zero_add]
    have e1 : cur[i * 9 + j]? = ((ms.map m9).flatten)[i * 9 + j]? := by rw [← b6, List.getElem?_take, if_pos (by omega), Array.getElem?_toList]
    rw [e1, flat_get (fun r hr => by obtain ⟨c, -, rfl⟩ := List.mem_map.1 hr; rfl) i j (by simpa using hi) hj, List.getElem_map]
/-- A copy lies as a history does. -/
theorem Cps.hat {w w0 : World} {B : Nat} {lv hv : Value} {h ms : List Mo} (hc : Cps w B lv h ms) (hh : HAt2 w0 hv h) : HAt2 w lv ms := by
  obtain ⟨-, -, -, -, h2⟩ := hh.1
  have key : ∀ m' ∈ ms, m'.R.At w ∧ m'.R.r.keys.length ≤ 1000000000000000000 ∧ In64 m'.c ∧ MOk m' := fun m' hm' => by
    obtain ⟨k, hk⟩ := List.getElem?_of_mem hm'
    obtain ⟨m, hm, hcp⟩ := hc.2 k m' hk
    have hmem := List.mem_of_getElem? hm
    obtain ⟨kv, vv, e⟩ := hcp.eq
    have h3 := h2 m hmem
    have h4 := hh.2 m hmem
    have hks := hcp.ks
    have hvs := hcp.vs
    subst e
    exact ⟨⟨(RowB.own hks).ra, (RowB.own hvs).ra⟩, h3.2.1, h3.2.2, ⟨h4.len, h4.ky, h4.keys⟩⟩
  obtain ⟨ad, cap, e, hx⟩ := hc.1.at
  exact ⟨⟨ad, cap, e, hx, fun m hm => ⟨(key m hm).1, (key m hm).2.1, (key m hm).2.2.1⟩⟩, fun m hm => (key m hm).2.2.2⟩
end Go.Proofs.YtihicdbplmdjiaaGreat
namespace Go.Proofs.YtihicdbplmdjiaaGreat

theorem Cps.pl {w : World} {B : Nat} {lv : Value} {h ms : List Mo} (hc : Cps w B lv h ms) (hl : ms.length = h.length) : ms.map Mo.pl = h.map Mo.pl := by
  refine List.ext_getElem? fun k => ?_
  rw [List.getElem?_map, List.getElem?_map]
  cases e : ms[k]? with
  | none =>
    have : ms.length ≤ k := List.getElem?_eq_none_iff.1 e
    rw [List.getElem?_eq_none (by omega)]
  | some m' =>
    obtain ⟨m, hm, hcp⟩ := hc.2 k m' e
    obtain ⟨kv, vv, e2⟩ := hcp.eq
    rw [hm, e2]; rfl
/-- What Order tells of a copy, and of the history itself: an order, if any. -/
theorem copy_order {h h' : List Mo} (hh : h'.map Mo.pl = h.map Mo.pl) {w w' : World} {lv : Value} {ok : Bool} {er : Int} (ho : OrderE h' w w' lv ok er) :
    (callsX h = none ∧ lv = .slice none 0 0 ∧ ok = false ∧ er = 230) ∨ ∃ cs, callsX h = some cs ∧ er = 0 ∧
      (((possibleB (madeX cs) cs = false ∨ Ord (waitsX cs) (2 ^ cs.length - 1) [] none) ∧ lv = .slice none 0 0 ∧ ok = false) ∨
       ∃ acc, possibleB (madeX cs) cs = true ∧ Ord (waitsX cs) (2 ^ cs.length - 1) [] (some acc) ∧ ok = true ∧ w'.ownsRow w.heap.size 3 1 lv acc.length (acc.map (fun i => vI ((cs[i]?.map Cl.b).getD 0 : Nat)))) := by
  rcases ho with ⟨h1, h2, h3, h4⟩ | ⟨cs', h1, h2, h3⟩
  · rcases calls_same hh with ⟨-, e⟩ | ⟨cs, _, e, -, -⟩
    · exact Or.inl ⟨e, h2, h3, h4⟩
    · rw [h1] at e; cases e
  · rcases calls_same hh with ⟨e, -⟩ | ⟨cs2, cs, e, e', hc⟩
    · rw [h1] at e; cases e
    · rw [h1] at e
      cases e
      have hl : cs'.length = cs.length := by simpa using congrArg List.length hc
      refine Or.inr ⟨cs, e', h2, ?_⟩
      rcases h3 with ⟨q1, q2, q3⟩ | ⟨acc, q1, q2, q3, q4⟩
      · refine Or.inl ⟨?_, q2, q3⟩
        rwa [possibleX_same hc, waits_same hc, hl] at q1
      · refine Or.inr ⟨acc, by rw [← possibleX_same hc]; exact q1, by rw [← waits_same hc, ← hl]; exact q2, q3, ?_⟩
        have eb : ∀ i, (cs'[i]?.map Cl.b).getD 0 = (cs[i]?.map Cl.b).getD 0 := fun i => by
          have := pl_get hc i
          cases e : cs'[i]? <;> cases e2 : cs[i]? <;> rw [e, e2] at this <;> simp at this ⊢
          exact (Cl.pl_eq.1 this).1
        simp only [eb] at q4
        exact q4
end Go.Proofs.YtihicdbplmdjiaaGreat
