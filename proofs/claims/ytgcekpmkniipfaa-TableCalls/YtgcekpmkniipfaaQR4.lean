import Derived.Test.YtgcekpmkniipfaaQRn
import Derived.Test.YtgcekpmkniipfaaQGc
namespace Go.Proofs.Ytgcekpmkniipfaa
open Go.ChangeShapes Go.WideShapes Go.ChangeAt Go.RowKit
set_option linter.unusedVariables false
set_option linter.unusedSimpArgs false

theorem under49 : Try.prog.underlying 49 = some (.slice 61) := by kernel_rfl
theorem under61 : Try.prog.underlying 61 = some (.struct #[fld "Place" 3 0 0, fld "Op" 23 1 8]) := by kernel_rfl
theorem cells61 : Try.prog.cellsOf 61 = 4 := by kernel_rfl
theorem bytes61 : Try.prog.bytesOf 61 = 40 := by kernel_rfl

set_option maxRecDepth 100000 in
/-- A step that came in. -/
theorem step_of {H : Type} {enc : TypeId × Value → H} {W : World} {n : Nat} {cs : List Value} {x : DataW H × List MemPlace} (h : DataW.trod enc Try.prog W 0 (fun _ => true) true n 61 cs = some x) :
    ∃ (pl kd ky : Int) (s : ByteArray), cs = [vI pl, vI kd, vI ky, .string s] ∧ In64 pl ∧ In64 kd ∧ In64 ky := by
  obtain ⟨xs, k, -, rfl, hcl, hxl, hf⟩ := DataW.trod_struct under61 h
  rw [cells61] at hcl
  have hxl : xs.length = 2 := hxl
  obtain ⟨c0, r0, rfl, hl1⟩ := len_cons hcl
  obtain ⟨c1, r1, rfl, hl2⟩ := len_cons hl1
  obtain ⟨c2, r2, rfl, hl3⟩ := len_cons hl2
  obtain ⟨c3, r3, rfl, hl4⟩ := len_cons hl3
  obtain rfl := List.length_eq_zero_iff.1 hl4
  have g0 := hf 0 (fld "Place" 3 0 0) rfl
  have g1 := hf 1 (fld "Op" 23 1 8) rfl
  have e0 : xs[0]? = some (xs[0]'(by omega)) := List.getElem?_eq_getElem (by omega)
  have e1 : xs[1]? = some (xs[1]'(by omega)) := List.getElem?_eq_getElem (by omega)
  rw [e0] at g0
  rw [e1] at g1
  simp only [fld, cellsI3, cells23, List.drop_zero, List.drop_succ_cons, List.take_succ_cons, List.take_zero] at g0 g1
  obtain ⟨z0, f0, i0⟩ := ints_of g0
  obtain ⟨kd, ky, s, f1, i1, i2, -⟩ := op_of g1
  have f0 := (List.cons.inj f0).1
  subst f0
  rw [f1]
  exact ⟨z0, kd, ky, s, rfl, i0, i1, i2⟩
/-- Steps that came in. -/
theorem steps_in {H : Type} {enc : TypeId × Value → H} {W : World} {n : Nat} {c : Value} {x : DataW H × List MemPlace} (h : DataW.trod enc Try.prog W 0 (fun _ => true) true n 49 [c] = some x) (hx : Szd x.1 49) :
    ∃ st : List (Int × OpT), StepsAt W W.heap.size c st ∧ ∀ x ∈ st, In64 x.1 ∧ In64 x.2.1 ∧ In64 x.2.2.1 := by
  obtain ⟨l, hl, a, cp, e, hcp, hin⟩ := rows_sz under49 cells61 bytes61 (by omega) h hx ((0, 0, 0, ⟨#[]⟩) : Int × OpT)
    (fun q cs => cs = [vI q.1, vI q.2.1, vI q.2.2.1, .string q.2.2.2] ∧ In64 q.1 ∧ In64 q.2.1 ∧ In64 q.2.2.1)
    (fun n cs y hy hs => by
      obtain ⟨pl, kd, ky, s, hcs, h1, h2, h3⟩ := step_of hy
      exact ⟨(pl, kd, ky, s), hcs, h1, h2, h3⟩)
  refine ⟨l, ⟨a, cp, e, fun hne => ?_⟩, fun o ho => ?_⟩
  · obtain ⟨k, o, rfl, hk, hc⟩ := hin hne
    refine ⟨k, o, rfl, hk, fun j hj => ?_⟩
    obtain ⟨cs, ⟨hcs, -⟩, hcell⟩ := hc j hj
    subst hcs
    exact ⟨hcell 0 (by omega), hcell 1 (by omega), hcell 2 (by omega), hcell 3 (by omega)⟩
  · obtain ⟨j, hj, rfl⟩ := List.mem_iff_getElem.1 ho
    obtain ⟨k, o, -, -, hc⟩ := hin (by rintro rfl; simp at hj)
    obtain ⟨cs, ⟨-, q⟩, -⟩ := hc j hj
    exact q

set_option maxRecDepth 100000 in
theorem tableCalls_lifted (os : Os) (started : os.Started) (H : Type) (enc : TypeId × Value → H) :
    ReturnsInHanded {} Try.checked os 5 .any (Rows.tableCallsSpec.pre6 enc Try.prog Try.f5 Rows.tableCallsRow.domain false) (Rows.tableCallsSpec.post enc Try.prog Try.f5 false true false false) := by
  refine returnsInHanded_of_change_sized (C := Try.checked) knob started (by kernel_rfl) Try.func5
    (ChangeSpec.witness6 (enc := enc) (C := Try.checked) false ⟨#[], #[.slice none 0 0], []⟩ 8 (by kernel_rfl) (by kernel_rfl) (by kernel_rfl) (by kernel_rfl)) ?_
  intro W base args ds gs before hval0 hW hcnd hsz _
  have hval : ∀ (j : Nat) t v, Try.f5.params[j]? = some t → args[j]? = some v → Value.okWide Try.prog W .any base t v := hval0
  have hW' := hW
  obtain ⟨p, q, hA0, hV, rfl, hfz, hnd⟩ := hW
  have hA : DataW.TrodAll enc Try.prog W 0 (fun _ => true) true Try.f5.params.toList args.toList ds p := hA0
  rw [Try.params5] at hA hval hsz
  obtain ⟨v0, vs0, d0, ds0, p0, q0, hargs, rfl, rfl, t0, r0⟩ := trodAll_cons hA
  obtain ⟨rfl, rfl, rfl⟩ := trodAll_nil r0
  obtain rfl : args = #[v0] := by cases args; simp_all
  obtain ⟨rfl, rfl⟩ := trodVars_none hV
  have lt0 : ∀ x ∈ p0, x.block < W.heap.size := by obtain ⟨m, hm⟩ := t0; exact DataW.trod_lt m _ _ _ hm
  obtain ⟨st, hS, hSk⟩ : ∃ st : List (Int × OpT), StepsAt W W.heap.size v0 st ∧ ∀ x ∈ st, In64 x.1 ∧ In64 x.2.1 ∧ In64 x.2.2.1 := by
    obtain ⟨sa, sn, sc, rfl⟩ := okWide_slice under49 (hval 0 49 v0 rfl rfl)
    obtain ⟨m, hm⟩ := t0
    exact steps_in hm (fun q hq => by
      have := List.all_eq_true.1 hsz q (DataW.weights_mem_each (j := 0) (t := 49) (d := d0) rfl rfl q hq)
      simpa using this)
  clear hA0
  refine (calls_any W v0 st hS hSk).mono fun e W' ⟨he, hf⟩ => ?_
  subst he
  have bel := fr_below hf
  exact ⟨_, rfl, _, _, _, [], _, [], hW', trodAll_mk1 (shut_bool under4 _), (trodAll_cons_mk (Below.trod laysOut (by kernel_rfl) (of_decide_eq_true (by kernel_rfl)) t0 bel lt0) trodAll_mk0), rfl, bel.frame _, fun h => by cases h⟩

/-- TableCalls. -/
theorem tableCalls_said : Rows.TableCallsSaid :=
  OpenClaim.holds_of_wide 5 Try.f5 rfl rfl rfl rfl rfl rfl rfl ⟨rfl, rfl, rfl, rfl, rfl⟩ rfl rfl rfl rfl rfl (by kernel_rfl) Try.func5 (by kernel_rfl)
    (of_decide_eq_true (by kernel_rfl)) (by unfold Func.isWrapper; first | (rw [if_pos (by decide +kernel)]; kernel_rfl) | (rw [if_neg (by decide +kernel)]; exact ⟨rfl, rfl⟩))
    (fun os started H enc _ => tableCalls_lifted os started H enc)
end Go.Proofs.Ytgcekpmkniipfaa
