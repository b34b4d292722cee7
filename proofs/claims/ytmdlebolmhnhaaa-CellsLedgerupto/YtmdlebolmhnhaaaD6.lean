import Derived.Test.YtmdlebolmhnhaaaD5
import Derived.Test.YtmdlebolmhnhaaaR1
import Derived.SizedLaws
namespace Go.Proofs.Ytmdlebolmhnhaaa
open Go.ChangeShapes Go.WideShapes Go.ChangeAt Go.RowKit
set_option linter.unusedVariables false
set_option linter.unusedSimpArgs false

def fld (name : String) (type offset byteOffset : Nat) : Field := { name := name, type := type, offset := offset, embedded := false, tag := "", pkgPath := "", byteOffset := byteOffset }
theorem under44 : Try.prog.underlying 44 = some (.struct #[fld "Kind" 3 0 0, fld "On" 3 1 8, fld "N" 3 2 16, fld "Heap" 4 3 24, fld "V" 32 4 32, fld "W" 32 6 48, fld "Cells" 39 8 64]) := by kernel_rfl
theorem under42 : Try.prog.underlying 42 = some (.slice 44) := by kernel_rfl
theorem cells4 : Try.prog.cellsOf 4 = 1 := by kernel_rfl
theorem cells39 : Try.prog.cellsOf 39 = 1 := by kernel_rfl
theorem cells44 : Try.prog.cellsOf 44 = 9 := by kernel_rfl
theorem bytes44 : Try.prog.bytesOf 44 = 88 := by kernel_rfl

theorem len_cons {n : Nat} : ∀ {cs : List Value}, cs.length = n + 1 → ∃ c r, cs = c :: r ∧ r.length = n
  | c :: r, h => ⟨c, r, rfl, by simpa using h⟩

/-- A call that came in, out of its cells. -/
theorem op_of {H : Type} {enc : TypeId × Value → H} {W : World} {n : Nat} {cs : List Value} {x : DataW H × List MemPlace} (h : DataW.trod enc Try.prog W 0 (fun _ => true) true n 44 cs = some x) : ∃ o : OpR, cs = (opC o).toList := by
  obtain ⟨xs, k, -, -, hcl, hxl, hf⟩ := DataW.trod_struct under44 h
  rw [cells44] at hcl
  have hxl : xs.length = 7 := hxl
  obtain ⟨c0, r0, rfl, hl1⟩ := len_cons hcl
  obtain ⟨c1, r1, rfl, hl2⟩ := len_cons hl1
  obtain ⟨c2, r2, rfl, hl3⟩ := len_cons hl2
  obtain ⟨c3, r3, rfl, hl4⟩ := len_cons hl3
  obtain ⟨c4, r4, rfl, hl5⟩ := len_cons hl4
  obtain ⟨c5, r5, rfl, hl6⟩ := len_cons hl5
  obtain ⟨c6, r6, rfl, hl7⟩ := len_cons hl6
  obtain ⟨c7, r7, rfl, hl8⟩ := len_cons hl7
  obtain ⟨c8, r8, rfl, hl9⟩ := len_cons hl8
  obtain rfl := List.length_eq_zero_iff.1 hl9
  have g0 := hf 0 (fld "Kind" 3 0 0) rfl
  have g1 := hf 1 (fld "On" 3 1 8) rfl
  have g2 := hf 2 (fld "N" 3 2 16) rfl
  have g3 := hf 3 (fld "Heap" 4 3 24) rfl
  have g4 := hf 4 (fld "V" 32 4 32) rfl
  have g5 := hf 5 (fld "W" 32 6 48) rfl
  have g6 := hf 6 (fld "Cells" 39 8 64) rfl
  rw [List.getElem?_eq_getElem (by omega)] at g0 g1 g2 g3 g4 g5 g6
  simp only [fld, cells3, cells4, cells32, cells39, List.drop_zero, List.drop_succ_cons, List.take_succ_cons, List.take_zero] at g0 g1 g2 g3 g4 g5 g6
  obtain ⟨z0, e0⟩ := ints_of g0
  obtain ⟨z1, e1⟩ := ints_of g1
  obtain ⟨z2, e2⟩ := ints_of g2
  obtain ⟨z3, e3, -⟩ := DataW.trod_bool under4 g3
  obtain ⟨v4, e4, e4'⟩ := val_of g4
  obtain ⟨v5, e5, e5'⟩ := val_of g5
  obtain ⟨a6, l6, k6, e6⟩ : ∃ a l c, c8 = .slice a l c := by
    rcases DataW.trod_slice under39 g6 with ⟨e, -⟩ | ⟨a, l, c, -, -, -, -, e, -⟩
    · exact ⟨_, _, _, (List.cons.inj e).1⟩
    · exact ⟨_, _, _, (List.cons.inj e).1⟩
  refine ⟨⟨z0, z1, z2, z3, v4, v5, a6, l6, k6⟩, ?_⟩
  have e0 := (List.cons.inj e0).1
  have e1 := (List.cons.inj e1).1
  have e2 := (List.cons.inj e2).1
  have e3 := (List.cons.inj e3).1
  subst e0; subst e1; subst e2; subst e3; subst e4; subst e4'; subst e5; subst e5'; subst e6
  rfl

/-- Calls that came in, as the walk asks for them. -/
theorem ops_of {H : Type} {enc : TypeId × Value → H} {W : World} {a : Option Addr} {len cap : Nat} {d : DataW H} {ps : List MemPlace} (h : DataW.Trod enc Try.prog W 0 (fun _ => true) true 42 (.slice a len cap) d ps) :
    ∃ os : List OpR, OpsIn W (.slice a len cap) os ∧ (d = .nil ∧ os = [] ∨ ∃ es sp, d = .slice es sp ∧ es.length = os.length) := by
  obtain ⟨fuel, hf⟩ := h
  rcases Deep.open_slice under42 hf with ⟨hcs, hx⟩ | ⟨x, l, c, m, n, D, Pl, hcs, _, hl, hm, hmm, hx, hc⟩
  · simp [Value.cells] at hcs
    obtain ⟨rfl, rfl, rfl⟩ := hcs
    exact ⟨[], ⟨none, 0, rfl, Nat.le_refl _, fun h => absurd rfl h⟩, Or.inl ⟨congrArg Prod.fst hx, rfl⟩⟩
  · simp [Value.cells] at hcs
    obtain ⟨rfl, rfl, rfl⟩ := hcs
    have hmc : m = cap := by simpa using hmm
    subst hmc
    have hv : ∀ i, i < len → ∃ q : OpR, ∀ j, j < 9 → W.cell? ((x.add (i * 9)).add j) = (opC q)[j]? := by
      intro i hi
      obtain ⟨cs', r0, r1⟩ := hc i (by omega)
      rw [cells44] at r0
      obtain ⟨-, -, hcell⟩ := World.cells?_some r0
      obtain ⟨o, rfl⟩ := op_of r1
      exact ⟨o, fun j hj => by rw [hcell j hj]; simp⟩
    obtain ⟨q, hq⟩ : ∃ q : Nat → OpR, ∀ i, i < len → ∀ j, j < 9 → W.cell? ((x.add (i * 9)).add j) = (opC (q i))[j]? := by
      have : ∀ i, ∃ q : OpR, i < len → ∀ j, j < 9 → W.cell? ((x.add (i * 9)).add j) = (opC q)[j]? := fun i => by
        by_cases hi : i < len
        · obtain ⟨q, hq⟩ := hv i hi
          exact ⟨q, fun _ => hq⟩
        · exact ⟨⟨0, 0, 0, false, (0, 0), (0, 0), none, 0, 0⟩, fun h => absurd h hi⟩
      exact ⟨fun i => (this i).choose, fun i => (this i).choose_spec⟩
    have hlen : ((List.range len).map q).length = len := by simp
    refine ⟨(List.range len).map q, ⟨some x, m, by rw [hlen], by omega, fun hne => ?_⟩, Or.inr ⟨_, _, congrArg Prod.fst hx, by simp⟩⟩
    obtain ⟨b, off, spot⟩ := x
    have hpos : 0 < len := by
      rcases Nat.eq_zero_or_pos len with h0 | h0
      · exfalso; apply hne; rw [h0]; rfl
      · exact h0
    have hspot : spot = none := by
      have h00 := hq 0 hpos 0 (by omega)
      have := World.cell?_spot (h00.trans (show (opC (q 0))[0]? = some (vI (q 0).kind) from rfl))
      simpa [Addr.add] using this
    subst hspot
    have hc' : ∀ i, i < len → ∀ j, j < 9 → W.cell? ⟨b, off + i * 9 + j, none⟩ = (opC (q i))[j]? := fun i hi j hj => by
      have h1 := hq i hi j hj
      rw [addr_off, addr_off] at h1
      exact h1
    refine ⟨b, off, rfl, cell_lt ((hc' 0 hpos 0 (by omega)).trans (show (opC (q 0))[0]? = some (vI (q 0).kind) from rfl)), fun i hi j hj => ?_⟩
    have hi' : i < len := by simpa using hi
    simpa using hc' i hi' j hj

set_option maxRecDepth 100000 in
theorem cellsPlaces_lifted (os : Os) (started : os.Started) (H : Type) (enc : TypeId × Value → H) :
    ReturnsInHanded {} Try.checked os 5 .any (Rows.cellsPlacesSpec.pre6 enc Try.prog Try.f5 Rows.cellsPlacesRow.domain false) (Rows.cellsPlacesSpec.post enc Try.prog Try.f5 false true false false) := by
  refine returnsInHanded_of_change_sized (C := Try.checked) knob started (by kernel_rfl) Try.func5
    (ChangeSpec.witness6 (enc := enc) (C := Try.checked) false ⟨#[], #[.slice none 0 0], []⟩ 8 (by kernel_rfl) (by kernel_rfl) (by kernel_rfl) (by kernel_rfl)) ?_
  intro W base args ds gs before hval0 hW hcnd hsz _
  have hval : ∀ (j : Nat) t v, Try.f5.params[j]? = some t → args[j]? = some v → Value.okWide Try.prog W .any base t v := hval0
  have hW' := hW
  obtain ⟨p, q, hA0, hV, rfl, hfz, hnd⟩ := hW
  have hA : DataW.TrodAll enc Try.prog W 0 (fun _ => true) true Try.f5.params.toList args.toList ds p := hA0
  rw [Try.params5] at hA hval hsz
  obtain ⟨v0, vs0, d0, ds0, p0, q0, hargs, rfl, rfl, t0, r0⟩ := trodAll_cons hA
  obtain ⟨rfl, rfl, rfl⟩ := trodAll_nil r0
  obtain rfl : args = #[v0] := by cases args; simp_all
  obtain ⟨rfl, rfl⟩ := trodVars_none hV
  obtain ⟨a0, len0, cap0, rfl⟩ := okWide_slice under42 (hval 0 42 v0 rfl rfl)
  have lt0 : ∀ x ∈ p0, x.block < W.heap.size := by obtain ⟨m, hm⟩ := t0; exact DataW.trod_lt m _ _ _ hm
  obtain ⟨xs, hxs, hd⟩ := ops_of t0
  have hxl : xs.length ≤ 9000000000000 := by
    rcases hd with ⟨-, rfl⟩ | ⟨es, sp, rfl, hl⟩
    · simp
    · have : (es.length + sp.length) * Try.prog.bytesOf 44 ≤ reachBytes := sized_slice hsz (j := 0) rfl rfl under42
      rw [bytes44] at this
      have hr : reachBytes = 140737488351232 := by decide
      omega
  clear hA0
  refine (places_walk _ xs W hxs hxl).mono fun e W' ⟨he, hf⟩ => ?_
  subst he
  have bel : Below W.heap.size W W' := ⟨hf.os, hf.tape, hf.output, hf.size, fun k hk => hf.block k hk (fun h => h)⟩
  exact ⟨_, rfl, _, _, _, [], _, [], hW', trodAll_mk1 (shut_bool under4 _), (trodAll_cons_mk (Below.trod laysOut (by kernel_rfl) (of_decide_eq_true (by kernel_rfl)) t0 bel lt0) trodAll_mk0), rfl, bel.frame _, fun h => by cases h⟩

/-- CellsPlaces. -/
theorem cellsPlaces_said : Rows.CellsPlacesSaid :=
  OpenClaim.holds_of_wide 5 Try.f5 rfl rfl rfl rfl rfl rfl rfl ⟨rfl, rfl, rfl, rfl, rfl⟩ rfl rfl rfl rfl rfl (by kernel_rfl) Try.func5 (by kernel_rfl)
    (of_decide_eq_true (by kernel_rfl)) (by unfold Func.isWrapper; first | (rw [if_pos (by decide +kernel)]; kernel_rfl) | (rw [if_neg (by decide +kernel)]; exact ⟨rfl, rfl⟩))
    (fun os started H enc _ => cellsPlaces_lifted os started H enc)

end Go.Proofs.Ytmdlebolmhnhaaa
