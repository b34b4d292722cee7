import Derived.Test.YtihicdbplmdjiaaQA3
namespace Go.Proofs.Ytihicdbplmdjiaa
open Go.RowKit (wrap32 wrap64)
set_option linter.unusedVariables false
set_option linter.unusedSimpArgs false

/-! ### right calls and answers -/
abbrev emB (v : ByteArray) : Bool := v.toList.isEmpty
theorem beq_dec (a b : Int) : (a == b) = decide (a = b) := by by_cases h : a = b <;> simp [h]
def rightOpB (kd ky : Int) (v : ByteArray) : Bool := decide (kd = 1) || (decide (kd = 2) && emB v) || (decide (kd = 3) && emB v && decide (ky = 0))
def noKeysB (r : Rpl) : Bool := ((r.keys.length : Int) == 0) && ((r.vals.length : Int) == 0)
def isZeroB (r : Rpl) : Bool := !r.ok && emB r.val && noKeysB r
def riseB : List Int → Bool
  | a :: b :: l => decide (a < b) && riseB (b :: l)
  | _ => true
def rightReplyB (kd : Int) (r : Rpl) : Bool := if kd = 3 then r.ok && emB r.val && decide (r.keys.length = r.vals.length) && riseB r.keys else ((decide (kd = 2) && r.ok) || emB r.val) && noKeysB r

set_option maxHeartbeats 1000000 in
theorem rightOp_any (kd ky : Int) (v : ByteArray) (w : World) : Calls Try.prog 37 #[opV kd ky v] w fun e w' => e = .returned (.bool (rightOpB kd ky v)) ∧ Fr (fun _ => False) w w' := by
  unfold opV rightOpB
  have HF : Hd (Fr (fun _ => False) w (w.alloc (.cells #[vI kd, vI ky, .string v] 24))) := (Fr.refl _ w).alloc _
  by_cases h1 : kd = 1
  · subst h1
    go_enter Try.func37, Try.ntmps37
    go_wp2_with fail
    go_ret
    exact ⟨by simp, HF.out⟩
  · by_cases h2 : kd = 2
    · subst h2
      go_enter Try.func37, Try.ntmps37
      go_wp2_with fail
      go_ret
      exact ⟨by simp, HF.out⟩
    · by_cases h3 : kd = 3
      · subst h3
        obtain ⟨E, hE⟩ : ∃ E, E = emB v := ⟨_, rfl⟩
        go_enter Try.func37, Try.ntmps37
        go_wp2_with fail
        all_goals go_ret
        all_goals exact ⟨by simp_all [beq_dec], HF.out⟩
      · go_enter Try.func37, Try.ntmps37
        go_wp2_with fail
        go_ret
        exact ⟨by simp [h1, h2, h3], HF.out⟩

theorem row_slice {w : World} {v : Value} {xs : List Value} (h : RowAt w v xs) : ∃ ad c, v = .slice ad xs.length c := by obtain ⟨a, c, e, -⟩ := h; exact ⟨a, c, e⟩
set_option maxHeartbeats 1000000 in
theorem noKeys_any (R : RV) (w : World) (h : R.At w) : Calls Try.prog 54 #[R.V] w fun e w' => e = .returned (.bool (noKeysB R.r)) ∧ Fr (fun _ => False) w w' := by
  obtain ⟨h1, h2⟩ := h
  obtain ⟨ka, kc, ek⟩ := row_slice h1
  obtain ⟨va, vc, ev⟩ := row_slice h2
  clear h1 h2
  obtain ⟨⟨ok, val, ks, vs⟩, kv, vv⟩ := R
  unfold RV.V noKeysB
  simp only [List.length_map] at *
  subst ek ev
  have HF : Hd (Fr (fun _ => False) w (w.alloc (.cells #[.bool ok, .string val, .slice ka ks.length kc, .slice va vs.length vc] 28))) := (Fr.refl _ w).alloc _
  go_enter Try.func54, Try.ntmps54
  go_wp2_with fail
  all_goals go_ret
  all_goals exact ⟨by simp_all, (Fr.refl _ w).alloc _⟩

theorem riseB_iff : ∀ l : List Int, riseB l = true ↔ ∀ i (h : i + 1 < l.length), l[i] < l[i + 1]
  | [] => ⟨fun _ i h => by simp at h, fun _ => rfl⟩
  | [a] => ⟨fun _ i h => by simp at h, fun _ => rfl⟩
  | a :: b :: l => by
    unfold riseB
    rw [Bool.and_eq_true, decide_eq_true_eq, riseB_iff (b :: l)]
    constructor
    · rintro ⟨h1, h2⟩ i h
      cases i with
      | zero => exact h1
      | succ i => exact h2 i (by simpa using h)
    · intro h
      exact ⟨h 0 (by simp), fun i hi => h (i + 1) (by simpa using hi)⟩
theorem riseB_rises {l : List Int} (h : riseB l = true) : Rises l := by
  intro i j hj hi
  induction j with
  | zero => omega
  | succ j ih =>
    have h1 := (riseB_iff l).1 h j hj
    rcases Nat.lt_or_ge i j with h2 | h2
    · have := ih (by omega) h2
      omega
    · have e : i = j := by omega
      subst e
      exact h1

set_option maxRecDepth 100000 in
set_option maxHeartbeats 2000000 in
theorem rise_any (v : Value) (zs : List Int) (w : World) (h : RowAt w v (zs.map vI)) (hl : zs.length ≤ 1000000000000000000) :
    Calls Try.prog 55 #[v] w fun e w' => e = .returned (.bool (riseB zs)) ∧ Fr (fun _ => False) w w' := by
  obtain ⟨ad, cap, rfl, h1⟩ := h
  simp only [List.length_map] at h1 ⊢
  obtain ⟨n, hn⟩ : ∃ n, n = zs.length := ⟨_, rfl⟩
  have HN : Hd (n = zs.length) := hn
  have H1 : Hd (0 < zs.length → ∃ k o, ad = some ⟨k, o, none⟩ ∧ ∀ j (h : j < zs.length), w.cell? ⟨k, o + j, none⟩ = some (vI zs[j])) := fun hz => by
    obtain ⟨k, o, e1, e3⟩ := h1 (by intro e; rw [List.map_eq_nil_iff] at e; subst e; simp at hz)
    exact ⟨k, o, e1, fun j hj => by rw [e3 j (by simpa using hj)]; simp⟩
  rw [← hn] at hl ⊢
  clear h1 hn
  go_enter Try.func55, Try.ntmps55
  go_wp2_with fail
  go_loopw [3] (fun v wr => ∃ i : Nat, v = vI ((i : Int) + 1) ∧ (i ≤ n) ∧ Hd (Fr (fun _ => False) w wr ∧ ∀ t, t < i → ∀ h : t + 1 < zs.length, zs[t] < zs[t + 1])) (fun v _ => match v with | .int _ q => n + 1 - q.toNat | _ => 0)
  case atStart => exact ⟨0, rfl, by omega, Fr.refl _ _, fun t ht => absurd ht (by omega)⟩
  case round =>
    obtain ⟨i, rfl, hi, HF⟩ := hrel
    by_cases hlt : (i : Int) + 1 < n
    · have h0 : (0 : Int) ≤ i := by omega
      have h2 : (i : Int) < n := by omega
      have hm : i + 1 < zs.length := by have := HN.out; omega
      obtain ⟨k1, o1, rfl, hc1⟩ := H1.out (by omega)
      have d1 : wr.cell? ⟨k1, o1 + i, none⟩ = some (vI zs[i]) := (HF.out.1.cell (cell_lt (hc1 _ (by omega))) (fun h => h)).trans (hc1 _ _)
      have d2 : wr.cell? ⟨k1, o1 + (i + 1), none⟩ = some (vI zs[i + 1]) := (HF.out.1.cell (cell_lt (hc1 _ (by omega))) (fun h => h)).trans (hc1 _ _)
      have d3 : wr.cell? ⟨k1, o1 + ((i : Int) + 1).toNat, none⟩ = some (vI zs[i + 1]) := by rw [show ((i : Int) + 1).toNat = i + 1 by omega]; exact d2
      obtain ⟨x, hx⟩ : ∃ y, y = zs[i] := ⟨_, rfl⟩
      obtain ⟨y, hy⟩ : ∃ y, y = zs[i + 1] := ⟨_, rfl⟩
      rw [← hx] at d1
      rw [← hy] at d2 d3
      have HY : Hd (zs[i]? = some x ∧ zs[i + 1]? = some y) := ⟨by rw [List.getElem?_eq_getElem (by omega), hx], by rw [List.getElem?_eq_getElem hm, hy]⟩
      clear hc1 H1 hx hy hm
      by_cases hyx : y ≤ x
      · go_wp2_with fail
        go_region
        all_goals go_wp2_with fail
        all_goals go_ret
        all_goals
          refine ⟨?_, HF.out.1.drew⟩
          obtain ⟨e1, e2⟩ := HY.out
          obtain ⟨hm, e2⟩ := List.getElem?_eq_some_iff.1 e2
          obtain ⟨hm0, e1⟩ := List.getElem?_eq_some_iff.1 e1
          have : riseB zs = false := by
            rw [Bool.eq_false_iff]
            intro h
            have := (riseB_iff zs).1 h i hm
            rw [e1, e2] at this
            omega
          rw [this]
          rfl
      · go_wp2_with fail
        go_region
        all_goals go_wp2_with fail
        all_goals
          refine ⟨⟨i + 1, by simp, by omega, HF.out.1.drew, fun t ht h => ?_⟩, by simp; omega⟩
          obtain ⟨e1, e2⟩ := HY.out
          obtain ⟨hm, e2⟩ := List.getElem?_eq_some_iff.1 e2
          obtain ⟨hm0, e1⟩ := List.getElem?_eq_some_iff.1 e1
          rcases Nat.lt_or_ge t i with h2 | h2
          · exact HF.out.2 t h2 h
          · have e : t = i := by omega
            subst e
            rw [e1, e2]
            omega
    · go_wp2_with fail
      go_ret
      refine ⟨?_, HF.out.1⟩
      have : riseB zs = true := (riseB_iff zs).2 fun t ht => HF.out.2 t (by have := HN.out; omega) ht
      rw [this]
      rfl
end Go.Proofs.Ytihicdbplmdjiaa
