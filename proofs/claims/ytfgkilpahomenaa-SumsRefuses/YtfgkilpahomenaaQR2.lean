import Derived.Test.YtfgkilpahomenaaQR1
import Derived.Test.YtfgkilpahomenaaQBg
import Derived.Test.YtfgkilpahomenaaQBh
namespace Go.Proofs.Ytfgkilpahomenaa
open Go.ChangeShapes Go.WideShapes Go.ChangeAt Go.RowKit
set_option linter.unusedVariables false
set_option linter.unusedSimpArgs false

theorem refuses_any (p r nn by' : Int) (va vb vc : Value) (la lb lc : List Int) (w : World) (ha : IA w va la) (hb : IA w vb lb) (hc : IA w vc lc) (za : la.length ≤ 17592186043904) :
    Calls Try.prog 4 #[.agg #[vI p, vI r, va, vb, vc], vI nn, vI by'] w fun e w' => e = .returned (.bool true) ∧ Fr (fun _ => False) w w' := by
  obtain ⟨P, hP⟩ : ∃ P : Nat, P = (modX p 9).toNat := ⟨_, rfl⟩
  obtain ⟨R, hR⟩ : ∃ R : Nat, R = (modX r 5).toNat := ⟨_, rfl⟩
  obtain ⟨K, hK⟩ : ∃ K : Nat, K = (modX nn (P * (R + 1) : Nat)).toNat := ⟨_, rfl⟩
  have key : ∀ P' R' K' : Nat, modX p 9 = P' → modX r 5 = R' → modX nn (P' * (R' + 1) : Nat) = K' → K' % (R' + 1) = K % (R + 1) := fun P' R' K' e1 e2 e3 => by
    have h1 : P' = P := by rw [hP, e1]; rfl
    have h2 : R' = R := by rw [hR, e2]; rfl
    subst h1
    subst h2
    have h3 : K' = K := by rw [hK, e3]; rfl
    rw [h3]
  by_cases h : K % (R + 1) = 0
  · exact refuses_heap p r nn by' va vb vc la lb lc w ha hb hc za (fun P' R' K' e1 e2 e3 => by rw [key P' R' K' e1 e2 e3]; exact h)
  · exact refuses_res p r nn by' va vb vc la lb lc w ha hb hc za (fun P' R' K' e1 e2 e3 => by rw [key P' R' K' e1 e2 e3]; exact h)

set_option maxRecDepth 100000 in
theorem sumsRefuses_lifted (os : Os) (started : os.Started) (H : Type) (enc : TypeId × Value → H) :
    ReturnsInHanded {} Try.checked os 4 .any (Rows.sumsRefusesSpec.pre6 enc Try.prog Try.f4 Rows.sumsRefusesRow.domain false) (Rows.sumsRefusesSpec.post enc Try.prog Try.f4 false true false false) := by
  refine returnsInHanded_of_change_sized (C := Try.checked) knob started (by kernel_rfl) Try.func4
    (ChangeSpec.witness6 (enc := enc) (C := Try.checked) false ⟨#[], #[.agg #[.int .i64 0, .int .i64 0, .slice none 0 0, .slice none 0 0, .slice none 0 0], .int .i64 0, .int .i64 0], []⟩ 8 (by kernel_rfl) (by kernel_rfl) (by kernel_rfl) (by kernel_rfl)) ?_
  intro W base args ds gs before hval0 hW hcnd hsz _
  have hval : ∀ (j : Nat) t v, Try.f4.params[j]? = some t → args[j]? = some v → Value.okWide Try.prog W .any base t v := hval0
  have hW' := hW
  obtain ⟨p, q, hA0, hV, rfl, hfz, hnd⟩ := hW
  have hA : DataW.TrodAll enc Try.prog W 0 (fun _ => true) true Try.f4.params.toList args.toList ds p := hA0
  rw [Try.params4] at hA hval hsz
  obtain ⟨v0, vs0, d0, ds0, p0, q0, hargs, rfl, rfl, t0, r0⟩ := trodAll_cons hA
  obtain ⟨v1, vs1, d1, ds1, p1, q1, rfl, rfl, rfl, t1, r1⟩ := trodAll_cons r0
  obtain ⟨v2, vs2, d2, ds2, p2, q2, rfl, rfl, rfl, t2, r2⟩ := trodAll_cons r1
  obtain ⟨rfl, rfl, rfl⟩ := trodAll_nil r2
  obtain rfl : args = #[v0, v1, v2] := by cases args; simp_all
  obtain ⟨rfl, rfl⟩ := trodVars_none hV
  have lt0 : ∀ x ∈ p0, x.block < W.heap.size := by obtain ⟨m, hm⟩ := t0; exact DataW.trod_lt m _ _ _ hm
  have lt1 : ∀ x ∈ p1, x.block < W.heap.size := by obtain ⟨m, hm⟩ := t1; exact DataW.trod_lt m _ _ _ hm
  have lt2 : ∀ x ∈ p2, x.block < W.heap.size := by obtain ⟨m, hm⟩ := t2; exact DataW.trod_lt m _ _ _ hm
  obtain ⟨pp, rr, av, bv, cv, la, lb, lc, rfl, hAa, hBb, hCc, za, zb, zc⟩ := three_in (hval 0 24 v0 rfl rfl) t0 (fun q hq => by
    have := List.all_eq_true.1 hsz q (DataW.weights_mem_each (j := 0) (t := 24) (d := d0) rfl rfl q hq)
    simpa using this)
  obtain ⟨n1, rfl⟩ := okWide_int under3 (hval 1 3 v1 rfl rfl)
  obtain ⟨n2, rfl⟩ := okWide_int under3 (hval 2 3 v2 rfl rfl)
  clear hA0
  refine (refuses_any pp rr n1 n2 av bv cv la lb lc W hAa hBb hCc za).mono fun e W' ⟨he, hf⟩ => ?_
  subst he
  have bel := fr_below hf
  exact ⟨_, rfl, _, _, _, [], _, [], hW', trodAll_mk1 (shut_bool under4 _), (trodAll_cons_mk (Below.trod laysOut (by kernel_rfl) (of_decide_eq_true (by kernel_rfl)) t0 bel lt0) (trodAll_cons_mk (Below.trod laysOut (by kernel_rfl) (of_decide_eq_true (by kernel_rfl)) t1 bel lt1) (trodAll_cons_mk (Below.trod laysOut (by kernel_rfl) (of_decide_eq_true (by kernel_rfl)) t2 bel lt2) trodAll_mk0))), rfl, bel.frame _, fun h => by cases h⟩

/-- SumsRefuses. -/
theorem sumsRefuses_said : Rows.SumsRefusesSaid :=
  OpenClaim.holds_of_wide 4 Try.f4 rfl rfl rfl rfl rfl rfl rfl ⟨rfl, rfl, rfl, rfl, rfl⟩ rfl rfl rfl rfl rfl (by kernel_rfl) Try.func4 (by kernel_rfl)
    (of_decide_eq_true (by kernel_rfl)) (by unfold Func.isWrapper; first | (rw [if_pos (by decide +kernel)]; kernel_rfl) | (rw [if_neg (by decide +kernel)]; exact ⟨rfl, rfl⟩))
    (fun os started H enc _ => sumsRefuses_lifted os started H enc)

end Go.Proofs.Ytfgkilpahomenaa
