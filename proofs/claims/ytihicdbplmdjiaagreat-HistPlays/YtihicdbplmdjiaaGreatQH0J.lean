import Derived.Test.YtihicdbplmdjiaaGreatQA1J
import Derived.Deep.RegionHeld3
import Derived.Test.YtihicdbplmdjiaaGreatQA4J
set_option linter.unusedVariables false
set_option linter.unusedSimpArgs false
namespace Go.Proofs.YtihicdbplmdjiaaGreat

/-! ### a region that draws its order, operation by operation in the text's order -/
section
variable {P : Program} {ops : Array Oper} {Q : Exit → Act → World → Prop} {md : Region.Mode} {S : World → Prop}
/-- An operation that yields in every world of the class is taken first. -/
theorem heldTake {i : Nat} (d : Tmp) {oi : Oper} {v : Value} {fuel : Nat} {listed : Array Bool} {a : Act} {w : World} (hi : ops[i]? = some oi) (hd : oi.dst = some d)
    (hs : Region.noSelect ops = true) (hf : Region.free md ops listed i = true) (hr : (Region.ready md ops listed).contains i = true)
    (hQ : ∀ c a w, Q (.panic c) (a.put (some d) v) w → Q (.panic c) a w) (hw : Region.wanted oi (yielded ops a.tmps) = true) (hy : ∀ w, S w → (execOp a.eval oi).run P w = .ok (.value v) w) (hS : S w)
    (h : wpAnyH P md ops Q S fuel (listed.setIfInBounds i true) (a.put (some d) v) w) : wpAnyH P md ops Q S (fuel + 1) listed a w :=
  wpAnyH_take hi hs hf hr (by rw [hd]; exact hQ) (Or.inl ⟨hw, hy⟩) hS (by rw [hd]; exact h)
/-- One that is passed over. -/
theorem heldPass {i : Nat} (d : Tmp) {oi : Oper} {fuel : Nat} {listed : Array Bool} {a : Act} {w : World} (hi : ops[i]? = some oi) (hd : oi.dst = some d)
    (hs : Region.noSelect ops = true) (hf : Region.free md ops listed i = true) (hr : (Region.ready md ops listed).contains i = true)
    (hQ : ∀ c a w, Q (.panic c) (a.put (some d) undef) w → Q (.panic c) a w) (hw : Region.wanted oi (yielded ops a.tmps) = false) (hS : S w)
    (h : wpAnyH P md ops Q S fuel (listed.setIfInBounds i true) (a.put (some d) undef) w) : wpAnyH P md ops Q S (fuel + 1) listed a w :=
  wpAnyH_take hi hs hf hr (by rw [hd]; exact hQ) (Or.inr ⟨hw, rfl⟩) hS (by rw [hd]; exact h)
/-- One alone may come up. -/
theorem heldOne {i : Nat} {o : Oper} {fuel : Nat} {listed : Array Bool} {a : Act} {w : World} (ho : ops[i]? = some o) (hr : Region.ready md ops listed = [i])
    (h : ∀ K' : Act → World → Prop, Shut (∀ a w, S w → wpAnyH P md ops Q S fuel (listed.setIfInBounds i true) a w → K' a w) → if Region.wanted o (yielded ops a.tmps) = true then Oper.wp P o a w K' Q else K' (a.put o.dst undef) w) : wpAnyH P md ops Q S (fuel + 1) listed a w := by
  refine wpAnyH_all hr (by simp) (fun j hj => ?_)
  obtain rfl := List.mem_singleton.1 hj
  exact wpOp_step ho (fun K' hK => h K' (fun a w h1 h2 => hK a w ⟨h1, h2⟩))
end
end Go.Proofs.YtihicdbplmdjiaaGreat
namespace Go.Proofs.YtihicdbplmdjiaaGreat
open Go.RowKit (wrap32 wrap64)

set_option maxHeartbeats 1000000 in
/-- The document's op. -/
theorem rop_any (kd ky : Int) (v : ByteArray) (w : World) : Calls Tryz.prog 40 #[opV kd ky v] w fun e w' => e = .returned (.bool (rightOpB kd ky v)) ∧ Fr (fun _ => False) w w' := by
  unfold opV rightOpB
  have HF : Hd (Fr (fun _ => False) w (w.alloc (.cells #[vI kd, vI ky, .string v] 28))) := (Fr.refl _ w).alloc _
  by_cases h1 : kd = 1
  · subst h1
    go_enter Tryz.func40, Tryz.ntmps40
    go_wp2_with fail
    go_ret
    exact ⟨by simp, HF.out⟩
  · by_cases h2 : kd = 2
    · subst h2
      go_enter Tryz.func40, Tryz.ntmps40
      go_wp2_with fail
      go_ret
      exact ⟨by simp, HF.out⟩
    · by_cases h3 : kd = 3
      · subst h3
        obtain ⟨E, hE⟩ : ∃ E, E = emB v := ⟨_, rfl⟩
        go_enter Tryz.func40, Tryz.ntmps40
        go_wp2_with fail
        all_goals go_ret
        all_goals exact ⟨by simp_all [beq_dec], HF.out⟩
      · go_enter Tryz.func40, Tryz.ntmps40
        go_wp2_with fail
        go_ret
        exact ⟨by simp [h1, h2, h3], HF.out⟩

set_option maxHeartbeats 2000000 in
/-- The document's zero. -/
theorem rzero_any (R : RV) (w : World) (h : R.At w) : Calls Tryz.prog 41 #[R.V] w fun e w' => e = .returned (.bool (isZeroB R.r)) ∧ Fr (fun _ => False) w w' := by
  obtain ⟨h1, h2⟩ := h
  obtain ⟨ka, kc, ek⟩ := row_slice h1
  obtain ⟨va, vc, ev⟩ := row_slice h2
  clear h1 h2
  obtain ⟨⟨ok, val, ks, vs⟩, kv, vv⟩ := R
  unfold RV.V isZeroB noKeysB
  simp only [List.length_map] at *
  subst ek ev
  have HF : Hd (Fr (fun _ => False) w (w.alloc (.cells #[.bool ok, .string val, .slice ka ks.length kc, .slice va vs.length vc] 39))) := (Fr.refl _ w).alloc _
  cases ok
  · go_enter Tryz.func41, Tryz.ntmps41
    go_wp2_with fail
    all_goals go_ret
    all_goals exact ⟨by simp_all, (Fr.refl _ w).alloc _⟩
  · go_enter Tryz.func41, Tryz.ntmps41
    go_wp2_with fail
    all_goals go_ret
    all_goals exact ⟨by simp_all, (Fr.refl _ w).alloc _⟩
end Go.Proofs.YtihicdbplmdjiaaGreat
