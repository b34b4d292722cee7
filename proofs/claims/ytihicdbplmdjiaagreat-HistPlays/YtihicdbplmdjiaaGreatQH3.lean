import Derived.Test.YtihicdbplmdjiaaGreatQH0J
import Derived.Test.YtihicdbplmdjiaaGreatQA9
set_option linter.unusedVariables false
set_option linter.unusedSimpArgs false
namespace Go.Proofs.YtihicdbplmdjiaaGreat
open Go.RowKit (wrap32 wrap64)

set_option maxRecDepth 100000 in
set_option maxHeartbeats 4000000 in
/-- The document's reply. -/
theorem rreply_any (kd ky : Int) (v : ByteArray) (R : RV) (w : World) (h : R.At w) (hl : R.r.keys.length ≤ 1000000000000000000) :
    Calls Tryz.prog 42 #[opV kd ky v, R.V] w fun e w' => e = .returned (.bool (rightReplyB kd R.r)) ∧ Fr (fun _ => False) w w' := by
  obtain ⟨h1, h2⟩ := h
  obtain ⟨va, vc, ev⟩ := row_slice h2
  obtain ⟨ka, kc, ek, h1⟩ := h1
  obtain ⟨⟨ok, val, ks, vs⟩, kv, vv⟩ := R
  unfold RV.V opV rightReplyB noKeysB
  simp only [List.length_map] at *
  subst ek ev
  clear h2
  have H1 : Hd (0 < ks.length → ∃ k o, ka = some ⟨k, o, none⟩ ∧ ∀ j (h : j < ks.length), w.cell? ⟨k, o + j, none⟩ = some (vI ks[j])) := fun hz => by
    obtain ⟨k, o, e1, e3⟩ := h1 (by intro e; rw [List.map_eq_nil_iff] at e; subst e; simp at hz)
    exact ⟨k, o, e1, fun j hj => by rw [e3 j (by simpa using hj)]; simp⟩
  clear h1
  have HF : Hd (Fr (fun _ => False) w ((w.alloc (.cells #[vI kd, vI ky, .string v] 28)).alloc (.cells #[.bool ok, .string val, .slice ka ks.length kc, .slice va vs.length vc] 39))) := ((Fr.refl _ w).alloc _).alloc _
  by_cases hk : kd = 3
  · subst hk
    obtain ⟨nk, hnk⟩ : ∃ n, n = ks.length := ⟨_, rfl⟩
    obtain ⟨nv, hnv⟩ : ∃ n, n = vs.length := ⟨_, rfl⟩
    have HN : Hd (nk = ks.length) := hnk
    rw [← hnk] at HF hl ⊢
    rw [← hnv] at HF ⊢
    clear hnk hnv
    obtain ⟨E, hE⟩ : ∃ E, E = val.toList.isEmpty := ⟨_, rfl⟩
    have hE2 : emB val = E := hE.symm
    rw [hE2]
    replace hE := hE.symm
    clear hE2
    by_cases hgood : ok = true ∧ E = true ∧ nk = nv
    · obtain ⟨rfl, rfl, rfl⟩ := hgood
      go_enter Tryz.func42, Tryz.ntmps42
      go_wp2_with fail
      obtain ⟨W0, eW0⟩ : ∃ W0, W0 = ((w.alloc (.cells #[vI 3, vI ky, .string v] 28)).alloc (.cells #[.bool true, .string val, .slice ka nk kc, .slice va nk vc] 39)) := ⟨_, rfl⟩
      have hb : W0.heap[w.heap.size + 1]? = some (.cells #[.bool true, .string val, .slice ka nk kc, .slice va nk vc] 39) := by
        rw [eW0]
        have := heap_alloc_last (w.alloc (.cells #[vI 3, vI ky, .string v] 28)) (.cells #[.bool true, .string val, .slice ka nk kc, .slice va nk vc] 39)
        rwa [show (w.alloc (.cells #[vI 3, vI ky, .string v] 28)).heap.size = w.heap.size + 1 by simp] at this
      rw [← eW0] at HF ⊢
      obtain ⟨pr, epr⟩ : ∃ pr, pr = w.heap.size + 1 := ⟨_, rfl⟩
      rw [← epr] at hb ⊢
      have HB : Hd (W0.heap[pr]? = some (.cells #[.bool true, .string val, .slice ka nk kc, .slice va nk vc] 39)) := hb
      clear eW0 hb epr hE
      go_loopw [5] (fun v wr => ∃ i : Nat, v = vI ((i : Int) + 1) ∧ (i ≤ nk) ∧ Hd (Fr (fun _ => False) W0 wr ∧ ∀ t, t < i → ∀ h : t + 1 < ks.length, ks[t] < ks[t + 1])) (fun v _ => match v with | .int _ q => nk + 1 - q.toNat | _ => 0)
      case atStart => exact ⟨0, rfl, by omega, Fr.refl _ _, fun t ht => absurd ht (by omega)⟩
      case round =>
        obtain ⟨i, rfl, hi, HG⟩ := hrel
        have hbr := (HG.out.1.block _ (heap_lt HB.out) (fun e => e)).trans HB.out
        have x2 := cell_of hbr 2
        simp only [List.getElem?_toArray, List.getElem?_cons_zero, List.getElem?_cons_succ] at x2
        clear hbr
        by_cases hlt : (i : Int) + 1 < nk
        · have h0 : (0 : Int) ≤ i := by omega
          have h2 : (i : Int) < nk := by omega
          have hm : i + 1 < ks.length := by have := HN.out; omega
          obtain ⟨k1, o1, rfl, hc1⟩ := H1.out (by omega)
          have hc1 := fun j hj => (HF.out.cell (cell_lt (hc1 j hj)) (fun h => h)).trans (hc1 j hj)
          have d1 : wr.cell? ⟨k1, o1 + i, none⟩ = some (vI ks[i]) := (HG.out.1.cell (cell_lt (hc1 _ (by omega))) (fun h => h)).trans (hc1 _ _)
          have d2 : wr.cell? ⟨k1, o1 + (i + 1), none⟩ = some (vI ks[i + 1]) := (HG.out.1.cell (cell_lt (hc1 _ (by omega))) (fun h => h)).trans (hc1 _ _)
          have d3 : wr.cell? ⟨k1, o1 + ((i : Int) + 1).toNat, none⟩ = some (vI ks[i + 1]) := by rw [show ((i : Int) + 1).toNat = i + 1 by omega]; exact d2
          obtain ⟨x, hx⟩ : ∃ y, y = ks[i] := ⟨_, rfl⟩
          obtain ⟨y, hy⟩ : ∃ y, y = ks[i + 1] := ⟨_, rfl⟩
          rw [← hx] at d1
          rw [← hy] at d2 d3
          have HY : Hd (ks[i]? = some x ∧ ks[i + 1]? = some y) := ⟨by rw [List.getElem?_eq_getElem (by omega), hx], by rw [List.getElem?_eq_getElem hm, hy]⟩
          clear hc1 H1 hx hy hm
          by_cases hyx : y ≤ x
          · go_wp2_with fail
            go_quiet (fail)
            go_wp2_with fail
            go_ret
            refine ⟨?_, (HF.out.trans HG.out.1).trans (fr_drewN _ _)⟩
            obtain ⟨e1, e2⟩ := HY.out
            obtain ⟨hm, e2⟩ := List.getElem?_eq_some_iff.1 e2
            obtain ⟨hm0, e1⟩ := List.getElem?_eq_some_iff.1 e1
            have : riseB ks = false := by
              rw [Bool.eq_false_iff]
              intro h
              have := (riseB_iff ks).1 h i hm
              rw [e1, e2] at this
              omega
            rw [this]
            simp
          · go_wp2_with fail
            go_quiet (fail)
            go_wp2_with fail
            refine ⟨⟨i + 1, by simp, by omega, HG.out.1.trans (fr_drewN _ _), fun t ht h => ?_⟩, by simp; omega⟩
            obtain ⟨e1, e2⟩ := HY.out
            obtain ⟨hm, e2⟩ := List.getElem?_eq_some_iff.1 e2
            obtain ⟨hm0, e1⟩ := List.getElem?_eq_some_iff.1 e1
            rcases Nat.lt_or_ge t i with h2 | h2
            · exact HG.out.2 t h2 h
            · have e : t = i := by omega
              subst e
              rw [e1, e2]
              omega
        · go_wp2_with fail
          go_ret
          refine ⟨?_, HF.out.trans HG.out.1⟩
          have : riseB ks = true := (riseB_iff ks).2 fun t ht => HG.out.2 t (by have := HN.out; omega) ht
          rw [this]
          simp
    · have hfalse : (ok && E && decide (nk = nv)) = false := by
        cases ok <;> cases E <;> simp_all
      have HFA : Hd ((ok && E && decide (nk = nv)) = false) := hfalse
      by_cases hnn : nk = nv
      · subst hnn
        cases ok
        · clear hgood hfalse
          go_enter Tryz.func42, Tryz.ntmps42
          go_wp2_with fail
          go_ret
          exact ⟨by simp, HF.out⟩
        · cases E
          · clear hgood hfalse
            go_enter Tryz.func42, Tryz.ntmps42
            go_wp2_with fail
            go_ret
            exact ⟨by simp, HF.out⟩
          · exact absurd ⟨rfl, rfl, rfl⟩ hgood
      · have hnn2 : ((nk : Int) == (nv : Int)) = false := by simp; omega
        cases ok
        · clear hgood hfalse
          go_enter Tryz.func42, Tryz.ntmps42
          go_wp2_with fail
          go_ret
          exact ⟨by simp, HF.out⟩
        · cases E
          · clear hgood hfalse
            go_enter Tryz.func42, Tryz.ntmps42
            go_wp2_with fail
            go_ret
            exact ⟨by simp, HF.out⟩
          · clear hgood hfalse
            go_enter Tryz.func42, Tryz.ntmps42
            go_wp2_with fail
            go_ret
            exact ⟨by simp [hnn], HF.out⟩
  · clear H1
    obtain ⟨nk, hnk⟩ : ∃ n, n = ks.length := ⟨_, rfl⟩
    obtain ⟨nv, hnv⟩ : ∃ n, n = vs.length := ⟨_, rfl⟩
    rw [← hnk] at HF hl ⊢
    rw [← hnv] at HF ⊢
    clear hnk hnv hl
    obtain ⟨E, hE⟩ : ∃ E, E = val.toList.isEmpty := ⟨_, rfl⟩
    have hE2 : emB val = E := hE.symm
    rw [hE2]
    replace hE := hE.symm
    clear hE2
    by_cases hk2 : kd = 2
    · subst hk2
      cases ok <;> cases E
      all_goals
        go_enter Tryz.func42, Tryz.ntmps42
        go_wp2_with fail
      all_goals go_ret
      all_goals exact ⟨by simp_all, ((Fr.refl _ w).alloc _).alloc _⟩
    · cases ok <;> cases E
      all_goals
        go_enter Tryz.func42, Tryz.ntmps42
        go_wp2_with fail
      all_goals go_ret
      all_goals exact ⟨by simp_all, ((Fr.refl _ w).alloc _).alloc _⟩
end Go.Proofs.YtihicdbplmdjiaaGreat
