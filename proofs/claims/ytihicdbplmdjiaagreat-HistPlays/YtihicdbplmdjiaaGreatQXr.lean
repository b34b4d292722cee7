import Derived.Test.YtihicdbplmdjiaaGreatQX9
import Derived.Test.YtihicdbplmdjiaaGreatQPlRl
set_option linter.unusedVariables false
set_option linter.unusedSimpArgs false
namespace Go.Proofs.YtihicdbplmdjiaaGreat
open Go.ChangeShapes Go.WideShapes Go.ChangeAt Go.RowKit

set_option maxRecDepth 100000 in
theorem histPlays_lifted (os : Os) (started : os.Started) (H : Type) (enc : TypeId × Value → H) :
    ReturnsInHanded {} Tryz.checked os 3 .any (Rows.histPlaysSpec.pre6 enc Tryz.prog Tryz.f3 Rows.histPlaysRow.domain false) (Rows.histPlaysSpec.post enc Tryz.prog Tryz.f3 false true false false) := by
  refine returnsInHanded_of_change_sized (C := Tryz.checked) Pl.knob started (by kernel_rfl) Tryz.func3
    (ChangeSpec.witness6 (enc := enc) (C := Tryz.checked) false ⟨#[], #[.slice none 0 0, .slice none 0 0], []⟩ 8 (by kernel_rfl) (by kernel_rfl) (by kernel_rfl) (by kernel_rfl)) ?_
  intro W base args ds gs before hval0 hW hcnd hsz _
  have hval : ∀ (j : Nat) t v, Tryz.f3.params[j]? = some t → args[j]? = some v → Value.okWide Tryz.prog W .any base t v := hval0
  have hW' := hW
  obtain ⟨p, q, hA0, hV, rfl, hfz, hnd⟩ := hW
  have hA : DataW.TrodAll enc Tryz.prog W 0 (fun _ => true) true Tryz.f3.params.toList args.toList ds p := hA0
  rw [Tryz.params3] at hA hval hsz
  obtain ⟨v0, vs0, d0, ds0, p0, q0, hargs, rfl, rfl, t0, r0⟩ := trodAll_cons hA
  obtain ⟨v1, vs1, d1, ds1, p1, q1, rfl, rfl, rfl, t1, r1⟩ := trodAll_cons r0
  obtain ⟨rfl, rfl, rfl⟩ := trodAll_nil r1
  obtain rfl : args = #[v0, v1] := by cases args; simp_all
  obtain ⟨rfl, rfl⟩ := trodVars_none hV
  have lt0 : ∀ x ∈ p0, x.block < W.heap.size := by obtain ⟨m, hm⟩ := t0; exact DataW.trod_lt m _ _ _ hm
  have lt1 : ∀ x ∈ p1, x.block < W.heap.size := by obtain ⟨m, hm⟩ := t1; exact DataW.trod_lt m _ _ _ hm
  obtain ⟨cl, hC, hCn, hCl, hCk⟩ : ∃ cl : List (List OpT), Pl.ClsAt W W.heap.size v0 cl ∧ cl.length ≤ 20000000000000 ∧ (∀ l ∈ cl, l.length ≤ 20000000000000) ∧ ∀ l ∈ cl, ∀ o ∈ l, Pl.In64 o.2.1 := by
    obtain ⟨sa, sn, sc, rfl⟩ := okWide_slice Pl.under34 (hval 0 22 v0 rfl rfl)
    obtain ⟨m, hm⟩ := t0
    exact Pl.cls_in hm (fun q hq => by
      have := List.all_eq_true.1 hsz q (DataW.weights_mem_each (j := 0) (t := 22) (d := d0) rfl rfl q hq)
      simpa using this)
  obtain ⟨zs, hZ, hZn⟩ : ∃ zs : List Int, Pl.IntsAt W W.heap.size v1 zs ∧ zs.length ≤ 20000000000000 := by
    obtain ⟨sa, sn, sc, rfl⟩ := okWide_slice Pl.under27 (hval 1 23 v1 rfl rfl)
    obtain ⟨m, hm⟩ := t1
    exact Pl.script_in hm (fun q hq => by
      have := List.all_eq_true.1 hsz q (DataW.weights_mem_each (j := 1) (t := 23) (d := d1) rfl rfl q hq)
      simpa using this)
  clear hA0
  refine (hplays_any W v0 v1 cl zs hC hZ hCn hCl hZn hCk).mono fun e W' ⟨he, hf⟩ => ?_
  subst he
  have bel := Pl.fr_below (fr_to hf)
  exact ⟨_, rfl, _, _, _, [], _, [], hW', trodAll_mk1 (shut_bool Pl.under4 _), (trodAll_cons_mk (Below.trod Pl.laysOut (by kernel_rfl) (of_decide_eq_true (by kernel_rfl)) t0 bel lt0) (trodAll_cons_mk (Below.trod Pl.laysOut (by kernel_rfl) (of_decide_eq_true (by kernel_rfl)) t1 bel lt1) trodAll_mk0)), rfl, bel.frame _, fun h => by cases h⟩

/-- HistPlays. -/
theorem histPlays_said : Rows.HistPlaysSaid :=
  OpenClaim.holds_of_wide 3 Tryz.f3 rfl rfl rfl rfl rfl rfl rfl ⟨rfl, rfl, rfl, rfl, rfl⟩ rfl rfl rfl rfl rfl (by kernel_rfl) Tryz.func3 (by kernel_rfl)
    (of_decide_eq_true (by kernel_rfl)) (by unfold Func.isWrapper; first | (rw [if_pos (by decide +kernel)]; kernel_rfl) | (rw [if_neg (by decide +kernel)]; exact ⟨rfl, rfl⟩))
    (fun os started H enc _ => histPlays_lifted os started H enc)
end Go.Proofs.YtihicdbplmdjiaaGreat
