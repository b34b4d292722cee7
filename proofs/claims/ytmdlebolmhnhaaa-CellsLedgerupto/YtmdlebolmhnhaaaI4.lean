import Derived.Test.YtmdlebolmhnhaaaI3
import Derived.Test.YtmdlebolmhnhaaaD6
import Derived.JoinedCond
namespace Go.Proofs.Ytmdlebolmhnhaaa
open Go.ChangeShapes Go.WideShapes Go.ChangeAt Go.RowKit
set_option linter.unusedVariables false
set_option linter.unusedSimpArgs false

theorem under55 : Try.prog.underlying 55 = some (.struct #[fld "Kind" 3 0 0, fld "N" 3 1 8, fld "Heap" 4 2 16, fld "Field" 3 3 24, fld "X" 3 4 32]) := by kernel_rfl
theorem under48 : Try.prog.underlying 48 = some (.slice 55) := by kernel_rfl
theorem cells55 : Try.prog.cellsOf 55 = 5 := by kernel_rfl

theorem bulk_posA {H : Type} (d : DataW H) : 1 ≤ Rows.uptoBulk d := by
  cases d with
  | lit l => cases l <;> simp [Rows.uptoBulk]
  | _ => simp [Rows.uptoBulk]

theorem bulk_lenA {H : Type} : ∀ (l : List (DataW H)), l.length ≤ Rows.uptoBulkAll l
  | [] => by simp
  | d :: r => by
    have h1 := bulk_posA d
    have h2 := bulk_lenA r
    simp only [Rows.uptoBulkAll, List.length_cons]
    omega

/-- An act that came in, out of its cells. -/
theorem act_of {H : Type} {enc : TypeId × Value → H} {W : World} {n : Nat} {cs : List Value} {x : DataW H × List MemPlace} (h : DataW.trod enc Try.prog W 0 (fun _ => true) true n 55 cs = some x) : ∃ o : ActR, cs = (actC o).toList := by
  obtain ⟨xs, k, -, -, hcl, hxl, hf⟩ := DataW.trod_struct under55 h
  rw [cells55] at hcl
  have hxl : xs.length = 5 := hxl
  obtain ⟨c0, r0, rfl, hl1⟩ := len_cons hcl
  obtain ⟨c1, r1, rfl, hl2⟩ := len_cons hl1
  obtain ⟨c2, r2, rfl, hl3⟩ := len_cons hl2
  obtain ⟨c3, r3, rfl, hl4⟩ := len_cons hl3
  obtain ⟨c4, r4, rfl, hl5⟩ := len_cons hl4
  obtain rfl := List.length_eq_zero_iff.1 hl5
  have g0 := hf 0 (fld "Kind" 3 0 0) rfl
  have g1 := hf 1 (fld "N" 3 1 8) rfl
  have g2 := hf 2 (fld "Heap" 4 2 16) rfl
  have g3 := hf 3 (fld "Field" 3 3 24) rfl
  have g4 := hf 4 (fld "X" 3 4 32) rfl
  rw [List.getElem?_eq_getElem (by omega)] at g0 g1 g2 g3 g4
  simp only [fld, cells3, cells4, List.drop_zero, List.drop_succ_cons, List.take_succ_cons, List.take_zero] at g0 g1 g2 g3 g4
  obtain ⟨z0, e0⟩ := ints_of g0
  obtain ⟨z1, e1⟩ := ints_of g1
  obtain ⟨z2, e2, -⟩ := DataW.trod_bool under4 g2
  obtain ⟨z3, e3⟩ := ints_of g3
  obtain ⟨z4, e4⟩ := ints_of g4
  refine ⟨⟨z0, z1, z2, z3, z4⟩, ?_⟩
  have e0 := (List.cons.inj e0).1
  have e1 := (List.cons.inj e1).1
  have e2 := (List.cons.inj e2).1
  have e3 := (List.cons.inj e3).1
  have e4 := (List.cons.inj e4).1
  subst e0; subst e1; subst e2; subst e3; subst e4
  rfl

/-- Acts that came in, as the walk asks for them; and how many there are at most. -/
theorem acts_of {H : Type} {enc : TypeId × Value → H} {W : World} {a : Option Addr} {len cap : Nat} {d : DataW H} {ps : List MemPlace} (h : DataW.Trod enc Try.prog W 0 (fun _ => true) true 48 (.slice a len cap) d ps) :
    ∃ os : List ActR, ActsIn W (.slice a len cap) os ∧ os.length ≤ Rows.uptoBulk d := by
  obtain ⟨fuel, hf⟩ := h
  rcases Deep.open_slice under48 hf with ⟨hcs, hx⟩ | ⟨x, l, c, m, n, D, Pl, hcs, _, hl, hm, hmm, hx, hc⟩
  · simp [Value.cells] at hcs
    obtain ⟨rfl, rfl, rfl⟩ := hcs
    exact ⟨[], ⟨none, 0, rfl, Nat.le_refl _, fun h => absurd rfl h⟩, by simp⟩
  · simp [Value.cells] at hcs
    obtain ⟨rfl, rfl, rfl⟩ := hcs
    have hmc : m = cap := by simpa using hmm
    subst hmc
    have hv : ∀ i, ∃ q : ActR, i < len → ∀ j, j < 5 → W.cell? ((x.add (i * 5)).add j) = (actC q)[j]? := by
      intro i
      by_cases hi : i < len
      · obtain ⟨cs', r0, r1⟩ := hc i (by omega)
        rw [cells55] at r0
        obtain ⟨-, -, hcell⟩ := World.cells?_some r0
        obtain ⟨o, rfl⟩ := act_of r1
        exact ⟨o, fun _ j hj => by rw [hcell j hj]; simp⟩
      · exact ⟨⟨0, 0, false, 0, 0⟩, fun h => absurd h hi⟩
    obtain ⟨Q, hQ⟩ : ∃ Q : Nat → ActR, ∀ i, i < len → ∀ j, j < 5 → W.cell? ((x.add (i * 5)).add j) = (actC (Q i))[j]? := ⟨fun i => (hv i).choose, fun i => (hv i).choose_spec⟩
    have hlen : ((List.range len).map Q).length = len := by simp
    refine ⟨(List.range len).map Q, ⟨some x, m, by rw [hlen], by omega, fun hne => ?_⟩, ?_⟩
    · obtain ⟨b, off, spot⟩ := x
      have hpos : 0 < len := by
        rcases Nat.eq_zero_or_pos len with h0 | h0
        · exfalso; apply hne; rw [h0]; rfl
        · exact h0
      have hspot : spot = none := by
        have h00 := hQ 0 hpos 0 (by omega)
        have := World.cell?_spot (h00.trans (show (actC (Q 0))[0]? = some (vI (Q 0).kind) from rfl))
        simpa [Addr.add] using this
      subst hspot
      have hc' : ∀ i, i < len → ∀ j, j < 5 → W.cell? ⟨b, off + i * 5 + j, none⟩ = (actC (Q i))[j]? := fun i hi j hj => by
        have h1 := hQ i hi j hj
        rw [addr_off, addr_off] at h1
        exact h1
      refine ⟨b, off, rfl, cell_lt ((hc' 0 hpos 0 (by omega)).trans (show (actC (Q 0))[0]? = some (vI (Q 0).kind) from rfl)), fun i hi j hj => ?_⟩
      have hi' : i < len := by simpa using hi
      simpa using hc' i hi' j hj
    · rw [hlen]
      have h1 := bulk_lenA ((List.range len).map D)
      rw [show d = _ from congrArg Prod.fst hx]
      simp only [Rows.uptoBulk]
      simp only [List.length_map, List.length_range] at h1
      omega

set_option maxRecDepth 100000 in
theorem cellsLedger_lifted (os : Os) (started : os.Started) (H : Type) (enc : TypeId × Value → H) (F : Stop.Interp) :
    ReturnsInHanded {} Try.checked os 7 .any ((Rows.OpenSpec.upto Rows.cellsLedgerSpec).pre6 enc Try.prog Try.f7 Rows.cellsLedgerUptoRow.domain false) (((Rows.OpenSpec.upto Rows.cellsLedgerSpec).at F).post enc Try.prog Try.f7 false true false false) := by
  refine returnsInHanded_of_cond (C := Try.checked) (s := Rows.OpenSpec.upto Rows.cellsLedgerSpec) (k := Rows.uptoSmall) rfl knob started (by kernel_rfl) Try.func7
    (OpenSpec.witness (enc := enc) (C := Try.checked) (s := Rows.OpenSpec.upto Rows.cellsLedgerSpec) (k := Rows.uptoSmall) rfl false ⟨#[], #[.slice none 0 0], []⟩ 8 (by kernel_rfl) (by kernel_rfl) (by kernel_rfl)
      (x := ([.nil], [], [])) (by kernel_rfl) rfl (by kernel_rfl)) ?_
  intro W base args ds gs before hval0 hW hcnd hk _
  have hval : ∀ (j : Nat) t v, Try.f7.params[j]? = some t → args[j]? = some v → Value.okWide Try.prog W .any base t v := hval0
  have hW' := hW
  obtain ⟨p, q, hA0, hV, rfl, hfz, hnd⟩ := hW
  have hA : DataW.TrodAll enc Try.prog W 0 (fun _ => true) true Try.f7.params.toList args.toList ds p := hA0
  rw [Try.params7] at hA hval
  obtain ⟨v0, vs0, d0, ds0, p0, q0, hargs, rfl, rfl, t0, r0⟩ := trodAll_cons hA
  obtain ⟨rfl, rfl, rfl⟩ := trodAll_nil r0
  obtain rfl : args = #[v0] := by cases args; simp_all
  obtain ⟨rfl, rfl⟩ := trodVars_none hV
  obtain ⟨a0, len0, cap0, rfl⟩ := okWide_slice under48 (hval 0 48 v0 rfl rfl)
  have lt0 : ∀ x ∈ p0, x.block < W.heap.size := by obtain ⟨m, hm⟩ := t0; exact DataW.trod_lt m _ _ _ hm
  obtain ⟨xs, hxs, hxl⟩ := acts_of t0
  have hbk := of_decide_eq_true hk
  simp only [List.append_nil, Rows.uptoBulkAll] at hbk
  clear hA0
  refine (ledger_walk _ xs W hxs (by omega)).mono fun e W' ⟨he, hf⟩ => ?_
  subst he
  have bel : Below W.heap.size W W' := ⟨hf.os, hf.tape, hf.output, hf.size, fun k hk => hf.block k hk (fun h => h)⟩
  exact ⟨_, rfl, _, _, _, [], _, [], hW', trodAll_mk1 (shut_bool under4 _), (trodAll_cons_mk (Below.trod laysOut (by kernel_rfl) (of_decide_eq_true (by kernel_rfl)) t0 bel lt0) trodAll_mk0), rfl, bel.frame _, fun h => by cases h⟩

/-- CellsLedger, up to its bulk. -/
theorem cellsLedger_said : Rows.CellsLedgerUptoSaid :=
  OpenClaim.holds_of_cond 7 Try.f7 rfl rfl rfl rfl rfl rfl rfl ⟨rfl, rfl, rfl, rfl, rfl⟩ rfl rfl rfl rfl rfl (by kernel_rfl) Try.func7 (by kernel_rfl)
    (of_decide_eq_true (by kernel_rfl)) (by unfold Func.isWrapper; first | (rw [if_pos (by decide +kernel)]; kernel_rfl) | (rw [if_neg (by decide +kernel)]; exact ⟨rfl, rfl⟩))
    (fun os started H enc _ F => cellsLedger_lifted os started H enc F)

end Go.Proofs.Ytmdlebolmhnhaaa
