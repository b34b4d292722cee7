import Derived.Test.YtihicdbplmdjiaaQE6J
namespace Go.Proofs.Ytihicdbplmdjiaa
open Go.RowKit (wrap32 wrap64)
set_option linter.unusedVariables false
set_option linter.unusedSimpArgs false

/-! ### deciding: are two lists the same? -/

set_option maxRecDepth 100000 in
set_option maxHeartbeats 2000000 in
theorem eqInts_any (v1 v2 : Value) (zs ys : List Int) (w : World) (h1 : RowAt w v1 (zs.map vI)) (h2 : RowAt w v2 (ys.map vI)) (hl : zs.length ≤ 100000000000000) (hl2 : ys.length ≤ 100000000000000) :
    Calls Try.prog 14 #[v1, v2] w fun e w' => e = .returned (.bool (decide (zs = ys))) ∧ Fr (fun _ => False) w w' := by
  obtain ⟨a1, c1, rfl, h1⟩ := h1
  obtain ⟨a2, c2, rfl, h2⟩ := h2
  simp only [List.length_map] at h1 h2 ⊢
  obtain ⟨n, hn⟩ : ∃ n, n = zs.length := ⟨_, rfl⟩
  obtain ⟨m, hm⟩ : ∃ m, m = ys.length := ⟨_, rfl⟩
  obtain ⟨D, hD⟩ : ∃ D, D = decide (zs = ys) := ⟨_, rfl⟩
  rw [← hD, ← hn, ← hm]
  by_cases hnm : n = m
  · subst hnm
    have HN : Hd (n = zs.length ∧ n = ys.length) := ⟨hn, hm⟩
    have HD : Hd (D = decide (zs = ys)) := hD
    have H1 : Hd (0 < zs.length → ∃ k o, a1 = some ⟨k, o, none⟩ ∧ ∀ j (h : j < zs.length), w.cell? ⟨k, o + j, none⟩ = some (vI zs[j])) := fun hz => by
      obtain ⟨k, o, e1, e3⟩ := h1 (by intro e; rw [List.map_eq_nil_iff] at e; subst e; simp at hz)
      exact ⟨k, o, e1, fun j hj => by rw [e3 j hj]; simp⟩
    have H2 : Hd (0 < ys.length → ∃ k o, a2 = some ⟨k, o, none⟩ ∧ ∀ j (h : j < ys.length), w.cell? ⟨k, o + j, none⟩ = some (vI ys[j])) := fun hz => by
      obtain ⟨k, o, e1, e3⟩ := h2 (by intro e; rw [List.map_eq_nil_iff] at e; subst e; simp at hz)
      exact ⟨k, o, e1, fun j hj => by rw [e3 j hj]; simp⟩
    rw [← hn] at hl
    clear h1 h2 hn hm hD hl2
    go_enter Try.func14, Try.ntmps14
    go_wp2_with fail
    go_loopw [5] (fun v wr => ∃ i : Nat, v = .int .i64 i ∧ i ≤ n ∧ Hd (Fr (fun _ => False) w wr ∧ zs.take i = ys.take i)) (fun v _ => match v with | .int _ q => n - q.toNat | _ => 0)
    case atStart => exact ⟨0, rfl, by omega, Fr.refl _ _, rfl⟩
    case round =>
      obtain ⟨i, rfl, hi, HF⟩ := hrel
      by_cases hlt : i < n
      · have hlt' : (i : Int) < n := by omega
        have h0 : (0 : Int) ≤ i := by omega
        have hzl : i < zs.length := by have := HN.out; omega
        have hyl : i < ys.length := by have := HN.out; omega
        obtain ⟨k1, o1, rfl, hc1⟩ := H1.out (by omega)
        obtain ⟨k2, o2, rfl, hc2⟩ := H2.out (by omega)
        have d1 : wr.cell? ⟨k1, o1 + i, none⟩ = some (vI zs[i]) := (HF.out.1.cell (cell_lt (hc1 i hzl)) (fun h => h)).trans (hc1 i hzl)
        have d2 : wr.cell? ⟨k2, o2 + i, none⟩ = some (vI ys[i]) := (HF.out.1.cell (cell_lt (hc2 i hyl)) (fun h => h)).trans (hc2 i hyl)
        have et : zs.take (i + 1) = zs.take i ++ [zs[i]] := by rw [List.take_add_one, List.getElem?_eq_getElem hzl]; rfl
        have ey : ys.take (i + 1) = ys.take i ++ [ys[i]] := by rw [List.take_add_one, List.getElem?_eq_getElem hyl]; rfl
        have HE : Hd (zs[i] = ys[i] → zs.take (i + 1) = ys.take (i + 1)) := fun e => by rw [et, ey, HF.out.2, e]
        have HX : Hd (zs[i] ≠ ys[i] → D = false) := fun e => by
          rw [HD.out, decide_eq_false_iff_not]
          rintro rfl; exact e rfl
        obtain ⟨x, hx⟩ : ∃ x, x = zs[i] := ⟨_, rfl⟩
        obtain ⟨y, hy⟩ : ∃ y, y = ys[i] := ⟨_, rfl⟩
        rw [← hx] at d1 HE HX
        rw [← hy] at d2 HE HX
        clear hzl hyl hc1 hc2 hx hy H1 H2 et ey
        by_cases hxy : x = y
        · subst hxy
          go_wp2_with fail
          go_region
          all_goals go_wp2_with fail
          all_goals exact ⟨⟨i + 1, by simp, by omega, HF.out.1.drew, HE.out (by trivial)⟩, by simp; omega⟩
        · have hDf : D = false := HX.out hxy
          subst hDf
          have hne : (x == y) = false := by simpa using hxy
          go_wp2_with fail
          go_region
          all_goals go_wp2_with fail
          all_goals go_ret
          all_goals exact ⟨rfl, HF.out.1.drew⟩
      · have hlt' : decide (i < n) = false := by simp; omega
        have hDt : D = true := by
          have := HF.out.2
          rw [List.take_of_length_le (by have := HN.out; omega), List.take_of_length_le (by have := HN.out; omega)] at this
          rw [HD.out, this]; simp
        subst hDt
        clear hi
        go_wp2_with fail
        go_ret
        exact ⟨rfl, HF.out.1⟩
  · have hDf : D = false := by
      rw [hD, decide_eq_false_iff_not]
      rintro rfl; omega
    subst hDf
    have hnm' : ¬ ((n : Int) = m) := by omega
    have hnm2 : ((n : Int) == m) = false := by simpa using hnm'
    clear h1 h2 hD
    go_enter Try.func14, Try.ntmps14
    go_wp2_with fail
    go_ret
    exact ⟨rfl, Fr.refl _ _⟩

set_option maxRecDepth 100000 in
set_option maxHeartbeats 2000000 in
theorem eqStrings_any (v1 v2 : Value) (zs ys : List ByteArray) (w : World) (h1 : RowAt w v1 (zs.map Value.string)) (h2 : RowAt w v2 (ys.map Value.string)) (hl : zs.length ≤ 100000000000000) (hl2 : ys.length ≤ 100000000000000) :
    Calls Try.prog 49 #[v1, v2] w fun e w' => e = .returned (.bool (decide (zs = ys))) ∧ Fr (fun _ => False) w w' := by
  obtain ⟨a1, c1, rfl, h1⟩ := h1
  obtain ⟨a2, c2, rfl, h2⟩ := h2
  simp only [List.length_map] at h1 h2 ⊢
  obtain ⟨n, hn⟩ : ∃ n, n = zs.length := ⟨_, rfl⟩
  obtain ⟨m, hm⟩ : ∃ m, m = ys.length := ⟨_, rfl⟩
  obtain ⟨D, hD⟩ : ∃ D, D = decide (zs = ys) := ⟨_, rfl⟩
  rw [← hD, ← hn, ← hm]
  by_cases hnm : n = m
  · subst hnm
    have HN : Hd (n = zs.length ∧ n = ys.length) := ⟨hn, hm⟩
    have HD : Hd (D = decide (zs = ys)) := hD
    have H1 : Hd (0 < zs.length → ∃ k o, a1 = some ⟨k, o, none⟩ ∧ ∀ j (h : j < zs.length), w.cell? ⟨k, o + j, none⟩ = some (.string zs[j])) := fun hz => by
      obtain ⟨k, o, e1, e3⟩ := h1 (by intro e; rw [List.map_eq_nil_iff] at e; subst e; simp at hz)
      exact ⟨k, o, e1, fun j hj => by rw [e3 j hj]; simp⟩
    have H2 : Hd (0 < ys.length → ∃ k o, a2 = some ⟨k, o, none⟩ ∧ ∀ j (h : j < ys.length), w.cell? ⟨k, o + j, none⟩ = some (.string ys[j])) := fun hz => by
      obtain ⟨k, o, e1, e3⟩ := h2 (by intro e; rw [List.map_eq_nil_iff] at e; subst e; simp at hz)
      exact ⟨k, o, e1, fun j hj => by rw [e3 j hj]; simp⟩
    rw [← hn] at hl
    clear h1 h2 hn hm hD hl2
    go_enter Try.func49, Try.ntmps49
    go_wp2_with fail
    go_loopw [5] (fun v wr => ∃ i : Nat, v = .int .i64 i ∧ i ≤ n ∧ Hd (Fr (fun _ => False) w wr ∧ zs.take i = ys.take i)) (fun v _ => match v with | .int _ q => n - q.toNat | _ => 0)
    case atStart => exact ⟨0, rfl, by omega, Fr.refl _ _, rfl⟩
    case round =>
      obtain ⟨i, rfl, hi, HF⟩ := hrel
      by_cases hlt : i < n
      · have hlt' : (i : Int) < n := by omega
        have h0 : (0 : Int) ≤ i := by omega
        have hzl : i < zs.length := by have := HN.out; omega
        have hyl : i < ys.length := by have := HN.out; omega
        obtain ⟨k1, o1, rfl, hc1⟩ := H1.out (by omega)
        obtain ⟨k2, o2, rfl, hc2⟩ := H2.out (by omega)
        have d1 : wr.cell? ⟨k1, o1 + i, none⟩ = some (.string zs[i]) := (HF.out.1.cell (cell_lt (hc1 i hzl)) (fun h => h)).trans (hc1 i hzl)
        have d2 : wr.cell? ⟨k2, o2 + i, none⟩ = some (.string ys[i]) := (HF.out.1.cell (cell_lt (hc2 i hyl)) (fun h => h)).trans (hc2 i hyl)
        have et : zs.take (i + 1) = zs.take i ++ [zs[i]] := by rw [List.take_add_one, List.getElem?_eq_getElem hzl]; rfl
        have ey : ys.take (i + 1) = ys.take i ++ [ys[i]] := by rw [List.take_add_one, List.getElem?_eq_getElem hyl]; rfl
        have HE : Hd (zs[i] = ys[i] → zs.take (i + 1) = ys.take (i + 1)) := fun e => by rw [et, ey, HF.out.2, e]
        have HX : Hd (zs[i] ≠ ys[i] → D = false) := fun e => by
          rw [HD.out, decide_eq_false_iff_not]
          rintro rfl; exact e rfl
        obtain ⟨x, hx⟩ : ∃ x, x = zs[i] := ⟨_, rfl⟩
        obtain ⟨y, hy⟩ : ∃ y, y = ys[i] := ⟨_, rfl⟩
        rw [← hx] at d1 HE HX
        rw [← hy] at d2 HE HX
        clear hzl hyl hc1 hc2 hx hy H1 H2 et ey
        by_cases hxy : x = y
        · subst hxy
          go_wp2_with fail
          go_region
          all_goals go_wp2_with fail
          all_goals exact ⟨⟨i + 1, by simp, by omega, HF.out.1.drew, HE.out (by trivial)⟩, by simp; omega⟩
        · have hDf : D = false := HX.out hxy
          subst hDf
          have hne : (x.toList == y.toList) = false := by
            cases hb : (x.toList == y.toList) with
            | false => rfl
            | true => exact absurd (ba_inj (by simpa using hb)) hxy
          go_wp2_with fail
          go_region
          all_goals go_wp2_with fail
          all_goals go_ret
          all_goals exact ⟨rfl, HF.out.1.drew⟩
      · have hlt' : decide (i < n) = false := by simp; omega
        have hDt : D = true := by
          have := HF.out.2
          rw [List.take_of_length_le (by have := HN.out; omega), List.take_of_length_le (by have := HN.out; omega)] at this
          rw [HD.out, this]; simp
        subst hDt
        clear hi
        go_wp2_with fail
        go_ret
        exact ⟨rfl, HF.out.1⟩
  · have hDf : D = false := by
      rw [hD, decide_eq_false_iff_not]
      rintro rfl; omega
    subst hDf
    have hnm' : ¬ ((n : Int) = m) := by omega
    have hnm2 : ((n : Int) == m) = false := by simpa using hnm'
    clear h1 h2 hD
    go_enter Try.func49, Try.ntmps49
    go_wp2_with fail
    go_ret
    exact ⟨rfl, Fr.refl _ _⟩
end Go.Proofs.Ytihicdbplmdjiaa

namespace Go.Proofs.Ytihicdbplmdjiaa
open Go.RowKit (wrap32 wrap64)
set_option linter.unusedVariables false
set_option linter.unusedSimpArgs false

/-! ### deciding: are two answers the same? -/
def rplB (a b : Rpl) : Bool := decide (a.ok = b.ok) && decide (a.val = b.val) && decide (a.keys = b.keys) && decide (a.vals = b.vals)
theorem rplB_iff {a b : Rpl} : rplB a b = true ↔ a = b := by
  unfold rplB
  simp only [Bool.and_eq_true, decide_eq_true_eq]
  constructor
  · rintro ⟨⟨⟨h1, h2⟩, h3⟩, h4⟩
    cases a; cases b
    simp only at h1 h2 h3 h4
    subst h1 h2 h3 h4; rfl
  · rintro rfl; exact ⟨⟨⟨rfl, rfl⟩, rfl⟩, rfl⟩
set_option maxRecDepth 100000 in
set_option maxHeartbeats 4000000 in
theorem eqReply_any (R1 R2 : RV) (w : World) (h1 : R1.At w) (h2 : R2.At w) (l1 : R1.r.keys.length ≤ 4000000000) (l2 : R2.r.keys.length ≤ 4000000000) (m1 : R1.r.vals.length ≤ 4000000000) (m2 : R2.r.vals.length ≤ 4000000000) :
    Calls Try.prog 33 #[R1.V, R2.V] w fun e w' => e = .returned (.bool (rplB R1.r R2.r)) ∧ Fr (fun _ => False) w w' := by
  unfold RV.V
  obtain ⟨⟨ok1, x1, ks1, vs1⟩, k1, u1⟩ := R1
  obtain ⟨⟨ok2, x2, ks2, vs2⟩, k2, u2⟩ := R2
  obtain ⟨hk1, hu1⟩ := h1
  obtain ⟨hk2, hu2⟩ := h2
  simp only at hk1 hu1 hk2 hu2 l1 l2 m1 m2 ⊢
  have C1 : ∀ W, Fr (fun _ => False) w W → Calls Try.prog 14 #[k1, k2] W fun e w' => e = .returned (.bool (decide (ks1 = ks2))) ∧ Fr (fun _ => False) W w' := fun W hW =>
    eqInts_any k1 k2 ks1 ks2 W (hk1.fr hW (fun _ _ _ h => h)) (hk2.fr hW (fun _ _ _ h => h)) (by omega) (by omega)
  have C2 : ∀ W, Fr (fun _ => False) w W → Calls Try.prog 49 #[u1, u2] W fun e w' => e = .returned (.bool (decide (vs1 = vs2))) ∧ Fr (fun _ => False) W w' := fun W hW =>
    eqStrings_any u1 u2 vs1 vs2 W (hu1.fr hW (fun _ _ _ h => h)) (hu2.fr hW (fun _ _ _ h => h)) (by omega) (by omega)
  obtain ⟨ka, kc, ek⟩ := row_slice hk1
  obtain ⟨ka2, kc2, ek2⟩ := row_slice hk2
  obtain ⟨va, vc, ev⟩ := row_slice hu1
  obtain ⟨va2, vc2, ev2⟩ := row_slice hu2
  simp only [List.length_map] at ek ek2 ev ev2
  obtain ⟨kn, hkn⟩ : ∃ n, n = ks1.length := ⟨_, rfl⟩
  obtain ⟨kn2, hkn2⟩ : ∃ n, n = ks2.length := ⟨_, rfl⟩
  obtain ⟨vn, hvn⟩ : ∃ n, n = vs1.length := ⟨_, rfl⟩
  obtain ⟨vn2, hvn2⟩ : ∃ n, n = vs2.length := ⟨_, rfl⟩
  rw [← hkn] at ek; rw [← hkn2] at ek2; rw [← hvn] at ev; rw [← hvn2] at ev2
  clear hkn hkn2 hvn hvn2 hk1 hk2 hu1 hu2 l1 l2 m1 m2
  subst ek ek2 ev ev2
  obtain ⟨D, hD⟩ : ∃ D, D = rplB ⟨ok1, x1, ks1, vs1⟩ ⟨ok2, x2, ks2, vs2⟩ := ⟨_, rfl⟩
  rw [← hD]
  have HD : Hd (D = (decide (ok1 = ok2) && decide (x1 = x2) && decide (ks1 = ks2) && decide (vs1 = vs2))) := by
    show _ = _
    rw [hD]; rfl
  clear hD
  obtain ⟨W, eW⟩ : ∃ W, W = ((w.alloc (.cells #[.bool ok1, .string x1, .slice ka kn kc, .slice va vn vc] 28)).alloc (.cells #[.bool ok2, .string x2, .slice ka2 kn2 kc2, .slice va2 vn2 vc2] 28)) := ⟨_, rfl⟩
  have f1 : Fr (fun _ => False) w W := by rw [eW]; exact ((Fr.refl _ w).alloc _).alloc _
  have b1 : W.heap[w.heap.size]? = some (.cells #[.bool ok1, .string x1, .slice ka kn kc, .slice va vn vc] 28) := by
    rw [eW, Go.RowKit.Below.heap_alloc _ _ _ (by simp)]; exact heap_alloc_last w _
  have b2 : W.heap[w.heap.size + 1]? = some (.cells #[.bool ok2, .string x2, .slice ka2 kn2 kc2, .slice va2 vn2 vc2] 28) := by
    have := heap_alloc_last (w.alloc (.cells #[.bool ok1, .string x1, .slice ka kn kc, .slice va vn vc] 28)) (.cells #[.bool ok2, .string x2, .slice ka2 kn2 kc2, .slice va2 vn2 vc2] 28)
    rw [show (w.alloc (.cells #[.bool ok1, .string x1, .slice ka kn kc, .slice va vn vc] 28)).heap.size = w.heap.size + 1 by simp] at this
    rw [eW]; exact this
  have F1 : Hd (Fr (fun _ => False) w W) := f1
  have B2' : Hd (W.heap[w.heap.size + 1]? = some (.cells #[.bool ok2, .string x2, .slice ka2 kn2 kc2, .slice va2 vn2 vc2] 28)) := b2
  have B1' : Hd (W.heap[w.heap.size]? = some (.cells #[.bool ok1, .string x1, .slice ka kn kc, .slice va vn vc] 28)) := b1
  clear f1 b1 b2
  go_enter Try.func33, Try.ntmps33
  go_upto_region 1 with fail
  rw [← eW]
  clear eW
  obtain ⟨bb, ebb⟩ : ∃ bb, bb = w.heap.size := ⟨_, rfl⟩
  rw [← ebb] at B1' B2' ⊢
  have d0 : W.cell? ⟨bb, 0, none⟩ = some (.bool ok1) := cell_of B1'.out 0
  have d1 : W.cell? ⟨bb, 1, none⟩ = some (.string x1) := cell_of B1'.out 1
  have d2 : W.cell? ⟨bb, 2, none⟩ = some (.slice ka kn kc) := cell_of B1'.out 2
  have e0 : W.cell? ⟨bb + 1, 0, none⟩ = some (.bool ok2) := cell_of B2'.out 0
  have e1 : W.cell? ⟨bb + 1, 1, none⟩ = some (.string x2) := cell_of B2'.out 1
  have e2 : W.cell? ⟨bb + 1, 2, none⟩ = some (.slice ka2 kn2 kc2) := cell_of B2'.out 2
  have HS : Hd (∀ W2, Fr (fun _ => False) W W2 → W2.cell? ⟨bb, 3, none⟩ = some (.slice va vn vc) ∧ W2.cell? ⟨bb + 1, 3, none⟩ = some (.slice va2 vn2 vc2)) := fun W2 h => ⟨(h.cell (heap_lt B1'.out) (fun h => h)).trans (cell_of B1'.out 3), (h.cell (heap_lt B2'.out) (fun h => h)).trans (cell_of B2'.out 3)⟩
  clear ebb B1' B2'
  by_cases ho : ok1 = ok2
  · subst ho
    by_cases hx : x1 = x2
    · subst hx
      go_wp2_with fail
      refine (C1 W F1.out).mono ?_
      rintro _ w1 ⟨rfl, hf1⟩
      obtain ⟨d3, e3⟩ := HS.out w1 hf1
      have F2 : Hd (Fr (fun _ => False) w w1) := F1.out.trans hf1
      clear C1 HS hf1 d0 d1 d2 e0 e1 e2
      by_cases hk : ks1 = ks2
      · have hkt : decide (ks1 = ks2) = true := by simpa using hk
        rw [hkt] at HD ⊢
        go_wp2_with fail
        refine (C2 w1 F2.out).mono ?_
        rintro _ w2 ⟨rfl, hf2⟩
        have F3 : Hd (Fr (fun _ => False) w w2) := F2.out.trans hf2
        have hDD : D = decide (vs1 = vs2) := by rw [HD.out]; simp
        clear C2 hf2 d3 e3 F2 F1
        go_wp2_with fail
        go_ret
        exact ⟨by rw [hDD]; rfl, F3.out⟩
      · have hkf : decide (ks1 = ks2) = false := by simpa using hk
        rw [hkf] at HD ⊢
        have hDD : D = false := by rw [HD.out]; simp
        subst hDD
        go_wp2_with fail
        go_ret
        exact ⟨rfl, F2.out⟩
    · have hne : (x1.toList == x2.toList) = false := by
        cases hb : (x1.toList == x2.toList) with
        | false => rfl
        | true => exact absurd (ba_inj (by simpa using hb)) hx
      have hDD : D = false := by rw [HD.out]; simp [hx]
      subst hDD
      go_wp2_with fail
      go_ret
      exact ⟨rfl, F1.out⟩
  · have hne : (ok1 == ok2) = false := by simpa using ho
    have hDD : D = false := by rw [HD.out]; simp [ho]
    subst hDD
    go_wp2_with fail
    go_ret
    exact ⟨rfl, F1.out⟩
end Go.Proofs.Ytihicdbplmdjiaa
