import Derived.Test.YtmdlebolmhnhaaaE6
namespace Go.Proofs.Ytmdlebolmhnhaaa
open Go.ChangeShapes Go.WideShapes Go.ChangeAt Go.RowKit
set_option linter.unusedVariables false
set_option linter.unusedSimpArgs false

/-- A call that came in, out of its cells, with its list. -/
theorem op_ofL {H : Type} {enc : TypeId × Value → H} {W : World} {n : Nat} {cs : List Value} {x : DataW H × List MemPlace} (h : DataW.trod enc Try.prog W 0 (fun _ => true) true n 44 cs = some x) :
    ∃ (o : OpR) (zs : List Int), cs = (opC o).toList ∧ o.cl = zs.length ∧ IntsAt W.heap.size W o.cells zs ∧ (zs = [] ∨ ∃ q ∈ x.1.weights Try.prog 44, zs.length * 8 ≤ q) := by
  obtain ⟨o, rfl⟩ := op_of h
  obtain ⟨xs, k, -, rfl, hcl, hxl, hf⟩ := DataW.trod_struct under44 h
  have hxl : xs.length = 7 := hxl
  have g6 := hf 6 (fld "Cells" 39 8 64) rfl
  have e6 : xs[6]? = some (xs[6]'(by omega)) := List.getElem?_eq_getElem (by omega)
  rw [e6] at g6
  simp only [fld, cells39, List.drop_zero, List.drop_succ_cons, List.take_succ_cons, List.take_zero] at g6
  obtain ⟨a, zs, cap, hc, hI, hw⟩ := intsAt_of g6
  refine ⟨o, zs, rfl, by injection hc, hI, ?_⟩
  rcases hw with hw | ⟨q, hq, hle⟩
  · exact Or.inl hw
  · refine Or.inr ⟨q, ?_, hle⟩
    simp only [DataW.weights, under44]
    exact DataW.weights_mem_each (j := 6) (t := 39) (d := (xs[6]'(by omega)).1) rfl (by rw [List.getElem?_map, e6]; rfl) q hq

/-- Calls that came in, with their lists. -/
theorem ops_ofL {H : Type} {enc : TypeId × Value → H} {W : World} {a : Option Addr} {len cap : Nat} {d : DataW H} {ps : List MemPlace} (h : DataW.Trod enc Try.prog W 0 (fun _ => true) true 42 (.slice a len cap) d ps) (hsz : ∀ q ∈ d.weights Try.prog 42, q ≤ reachBytes) :
    ∃ (os : List OpR) (zss : Nat → List Int), OpsIn W (.slice a len cap) os ∧ OpsL W os zss ∧ os.length ≤ 9000000000000 := by
  have hr : reachBytes = 140737488351232 := by decide
  obtain ⟨fuel, hf⟩ := h
  rcases Deep.open_slice under42 hf with ⟨hcs, hx⟩ | ⟨x, l, c, m, n, D, Pl, hcs, _, hl, hm, hmm, hx, hc⟩
  · simp [Value.cells] at hcs
    obtain ⟨rfl, rfl, rfl⟩ := hcs
    exact ⟨[], fun _ => [], ⟨none, 0, rfl, Nat.le_refl _, fun h => absurd rfl h⟩, fun i h => absurd h (by simp), by simp⟩
  · simp [Value.cells] at hcs
    obtain ⟨rfl, rfl, rfl⟩ := hcs
    have hmc : m = cap := by simpa using hmm
    subst hmc
    have hd := congrArg Prod.fst hx
    simp only at hd
    subst hd
    have hv : ∀ i, ∃ q : OpR × List Int, i < len → (∀ j, j < 9 → W.cell? ((x.add (i * 9)).add j) = (opC q.1)[j]?) ∧ q.1.cl = q.2.length ∧ IntsAt W.heap.size W q.1.cells q.2 ∧ q.2.length ≤ 17592186043904 := by
      intro i
      by_cases hi : i < len
      · obtain ⟨cs', r0, r1⟩ := hc i (by omega)
        rw [cells44] at r0
        obtain ⟨-, -, hcell⟩ := World.cells?_some r0
        obtain ⟨o, zs, rfl, h1, h2, h3⟩ := op_ofL r1
        refine ⟨(o, zs), fun _ => ⟨fun j hj => by rw [hcell j hj]; simp, h1, h2, ?_⟩⟩
        rcases h3 with rfl | ⟨q, hq, hle⟩
        · simp
        · have := hsz q (by
            simp only [DataW.weights, under42]
            refine List.mem_cons_of_mem _ (List.mem_append_left _ (weightsAll_mem hq ?_))
            exact List.mem_map.2 ⟨i, List.mem_range.2 hi, rfl⟩)
          simp only
          omega
      · exact ⟨(⟨0, 0, 0, false, (0, 0), (0, 0), none, 0, 0⟩, []), fun h => absurd h hi⟩
    obtain ⟨Q, hQ⟩ : ∃ Q : Nat → OpR × List Int, ∀ i, i < len → (∀ j, j < 9 → W.cell? ((x.add (i * 9)).add j) = (opC (Q i).1)[j]?) ∧ (Q i).1.cl = (Q i).2.length ∧ IntsAt W.heap.size W (Q i).1.cells (Q i).2 ∧ (Q i).2.length ≤ 17592186043904 :=
      ⟨fun i => (hv i).choose, fun i => (hv i).choose_spec⟩
    have hlen : ((List.range len).map fun i => (Q i).1).length = len := by simp
    refine ⟨(List.range len).map fun i => (Q i).1, fun i => (Q i).2, ⟨some x, m, by rw [hlen], by omega, fun hne => ?_⟩, fun i hi => ?_, ?_⟩
    · obtain ⟨b, off, spot⟩ := x
      have hpos : 0 < len := by
        rcases Nat.eq_zero_or_pos len with h0 | h0
        · exfalso; apply hne; rw [h0]; rfl
        · exact h0
      have hspot : spot = none := by
        have h00 := (hQ 0 hpos).1 0 (by omega)
        have := World.cell?_spot (h00.trans (show (opC (Q 0).1)[0]? = some (vI (Q 0).1.kind) from rfl))
        simpa [Addr.add] using this
      subst hspot
      have hc' : ∀ i, i < len → ∀ j, j < 9 → W.cell? ⟨b, off + i * 9 + j, none⟩ = (opC (Q i).1)[j]? := fun i hi j hj => by
        have h1 := (hQ i hi).1 j hj
        rw [addr_off, addr_off] at h1
        exact h1
      refine ⟨b, off, rfl, cell_lt ((hc' 0 hpos 0 (by omega)).trans (show (opC (Q 0).1)[0]? = some (vI (Q 0).1.kind) from rfl)), fun i hi j hj => ?_⟩
      have hi' : i < len := by simpa using hi
      simpa using hc' i hi' j hj
    · have hi' : i < len := by simpa using hi
      simpa using (hQ i hi').2
    · rw [hlen]
      have := hsz ((len + (m - len)) * 88) (by
        simp only [DataW.weights, under42, bytes44, List.length_map, List.length_range]
        exact List.mem_cons_self)
      omega

set_option maxRecDepth 100000 in
theorem cellsRefuses_lifted (os : Os) (started : os.Started) (H : Type) (enc : TypeId × Value → H) :
    ReturnsInHanded {} Try.checked os 6 .any (Rows.cellsRefusesSpec.pre6 enc Try.prog Try.f6 Rows.cellsRefusesRow.domain false) (Rows.cellsRefusesSpec.post enc Try.prog Try.f6 false true false false) := by
  refine returnsInHanded_of_change_sized (C := Try.checked) knob started (by kernel_rfl) Try.func6
    (ChangeSpec.witness6 (enc := enc) (C := Try.checked) false ⟨#[], #[.slice none 0 0], []⟩ 8 (by kernel_rfl) (by kernel_rfl) (by kernel_rfl) (by kernel_rfl)) ?_
  intro W base args ds gs before hval0 hW hcnd hsz _
  have hval : ∀ (j : Nat) t v, Try.f6.params[j]? = some t → args[j]? = some v → Value.okWide Try.prog W .any base t v := hval0
  have hW' := hW
  obtain ⟨p, q, hA0, hV, rfl, hfz, hnd⟩ := hW
  have hA : DataW.TrodAll enc Try.prog W 0 (fun _ => true) true Try.f6.params.toList args.toList ds p := hA0
  rw [Try.params6] at hA hval hsz
  obtain ⟨v0, vs0, d0, ds0, p0, q0, hargs, rfl, rfl, t0, r0⟩ := trodAll_cons hA
  obtain ⟨rfl, rfl, rfl⟩ := trodAll_nil r0
  obtain rfl : args = #[v0] := by cases args; simp_all
  obtain ⟨rfl, rfl⟩ := trodVars_none hV
  obtain ⟨a0, len0, cap0, rfl⟩ := okWide_slice under42 (hval 0 42 v0 rfl rfl)
  have lt0 : ∀ x ∈ p0, x.block < W.heap.size := by obtain ⟨m, hm⟩ := t0; exact DataW.trod_lt m _ _ _ hm
  obtain ⟨xs, zss, hxs, hzs, hxl⟩ := ops_ofL t0 (fun q hq => by
    have := List.all_eq_true.1 hsz q (DataW.weights_mem_each (j := 0) (t := 42) (d := d0) rfl rfl q hq)
    simpa using this)
  clear hA0
  refine (refuses_walk _ xs zss W hxs hzs hxl).mono fun e W' ⟨he, hf⟩ => ?_
  subst he
  have bel : Below W.heap.size W W' := ⟨hf.os, hf.tape, hf.output, hf.size, fun k hk => hf.block k hk (fun h => h)⟩
  exact ⟨_, rfl, _, _, _, [], _, [], hW', trodAll_mk1 (shut_bool under4 _), (trodAll_cons_mk (Below.trod laysOut (by kernel_rfl) (of_decide_eq_true (by kernel_rfl)) t0 bel lt0) trodAll_mk0), rfl, bel.frame _, fun h => by cases h⟩

/-- CellsRefuses. -/
theorem cellsRefuses_said : Rows.CellsRefusesSaid :=
  OpenClaim.holds_of_wide 6 Try.f6 rfl rfl rfl rfl rfl rfl rfl ⟨rfl, rfl, rfl, rfl, rfl⟩ rfl rfl rfl rfl rfl (by kernel_rfl) Try.func6 (by kernel_rfl)
    (of_decide_eq_true (by kernel_rfl)) (by unfold Func.isWrapper; first | (rw [if_pos (by decide +kernel)]; kernel_rfl) | (rw [if_neg (by decide +kernel)]; exact ⟨rfl, rfl⟩))
    (fun os started H enc _ => cellsRefuses_lifted os started H enc)

end Go.Proofs.Ytmdlebolmhnhaaa
