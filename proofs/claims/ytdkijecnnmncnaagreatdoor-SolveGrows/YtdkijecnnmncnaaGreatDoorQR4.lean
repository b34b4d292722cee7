import Derived.Test.YtdkijecnnmncnaaGreatDoorQRhJ
import Derived.Test.YtdkijecnnmncnaaGreatDoorQUi
namespace Go.Proofs.YtdkijecnnmncnaaGreatDoor
open Go.ChangeShapes Go.WideShapes Go.ChangeAt Go.RowKit
set_option linter.unusedVariables false
set_option linter.unusedSimpArgs false
set_option maxRecDepth 100000
theorem cel43 : Tryz.prog.cellsOf 43 = 5 := by kernel_rfl
theorem und43 : Tryz.prog.underlying 43 = some (.struct #[fld "P" 24 0 0, fld "F" 3 2 32, fld "More" 41 3 40, fld "Sums" 25 4 64]) := by kernel_rfl
theorem more_sz {H : Type} {enc : TypeId × Value → H} {W : World} {n : Nat} {x : DataW H × List MemPlace} {cs : List Value} (h : DataW.trod enc Tryz.prog W 0 (fun _ => true) true n 43 cs = some x) (hx : Szd x.1 43) : ∃ (G : Int) (fv : Value) (fs : List PF) (F : Int) (mv : Value) (ms : List PI) (sv : Value) (ss : List PS), cs = [vI G, fv, vI F, mv, sv] ∧ FA W fv fs ∧ FineP fs ∧ CA W mv ms ∧ FineC ms ∧ SsA W sv ss ∧ FineS ss := by
 obtain ⟨xs, k, -, rfl, hcl, hxl, hf⟩ := DataW.trod_struct und43 h
 rw [cel43] at hcl
 have hxl : xs.length = 4 := hxl
 obtain ⟨c0, r0, rfl, hl1⟩ := len_cons hcl
 obtain ⟨c1, r1, rfl, hl2⟩ := len_cons hl1
 obtain ⟨c2, r2, rfl, hl3⟩ := len_cons hl2
 obtain ⟨c3, r3, rfl, hl4⟩ := len_cons hl3
 obtain ⟨c4, r4, rfl, hl5⟩ := len_cons hl4
 obtain rfl := List.length_eq_zero_iff.1 hl5
 have g0 := hf 0 (fld "P" 24 0 0) rfl
 have g1 := hf 1 (fld "F" 3 2 32) rfl
 have g2 := hf 2 (fld "More" 41 3 40) rfl
 have g3 := hf 3 (fld "Sums" 25 4 64) rfl
 have ee : ∀ i (hi : i < 4), xs[i]? = some (xs[i]'(by omega)) := fun i hi => List.getElem?_eq_getElem (by omega)
 rw [ee 0 (by omega)] at g0
 rw [ee 1 (by omega)] at g1
 rw [ee 2 (by omega)] at g2
 rw [ee 3 (by omega)] at g3
 simp only [fld, cel3, cel24, cel25, cel65, List.drop_zero, List.drop_succ_cons, List.take_succ_cons, List.take_zero] at g0 g1 g2 g3
 have bb : ∀ i (hi : i < 4) u, (#[fld "P" 24 0 0, fld "F" 3 2 32, fld "More" 41 3 40, fld "Sums" 25 4 64].toList.map (·.type))[i]? = some u → Szd (xs[i]'(by omega)).1 u := fun i hi u hu q hq => by
  apply hx
  simp only [DataW.weights, und43]
  exact DataW.weights_mem_each (j := i) (t := u) (d := (xs[i]'(by omega)).1) hu (by rw [List.getElem?_map, ee i hi]; rfl) q hq
 obtain ⟨G, fv, fs, e, hF, hP⟩ := prog_sz g0 (bb 0 (by omega) 24 rfl)
 obtain ⟨z1, rfl⟩ := int_of g1
 obtain ⟨ms, hM, hFM⟩ := code_sz g2 (bb 2 (by omega) 41 rfl)
 obtain ⟨ss, hS, hFS⟩ := sums_sz g3 (bb 3 (by omega) 25 rfl)
 cases e
 exact ⟨G, _, fs, z1, _, ms, _, ss, rfl, hF, hP, hM, hFM, hS, hFS⟩
theorem params4 : Tryz.f4.params = #[43] := by kernel_rfl
theorem solveGrows_contract (H : Type) (enc : TypeId × Value → H) (W : World) (base : Nat) (args : Array Value) (ds gs : List (DataW H)) (before : List MemPlace)
 (hval : ∀ (j : Nat) t v, Tryz.f4.params[j]? = some t → args[j]? = some v → Value.okWide Tryz.prog W .any base t v)
 (hW : DataW.Whole enc Tryz.prog Tryz.f4.params.toList Rows.solveGrowsSpec.vars false W args.toList ds gs before) (hL : laidMetH Tryz.prog Rows.solveGrowsRow.laid W) (hsz : (DataW.weightsEach Tryz.prog (Tryz.f4.params.toList ++ (OpenSpec.ofChange Rows.solveGrowsSpec).bare.plain.varTypes Tryz.prog) (ds ++ gs)).all (· ≤ reachBytes) = true) :
 Calls Tryz.prog 4 args W fun e W' => ∃ v, e = .returned v ∧ Rows.solveGrowsSpec.post enc Tryz.prog Tryz.f4 false true false false W args v W' := by
 have hT := tab_of hL
 have hR := rowsA_of hL
 have hW' := hW
 obtain ⟨p, q, hA0, hV, rfl, hfz, hnd⟩ := hW
 have hA : DataW.TrodAll enc Tryz.prog W 0 (fun _ => true) true Tryz.f4.params.toList args.toList ds p := hA0
 rw [params4] at hA hval hsz
 obtain ⟨v0, vs0, d0, ds0, p0, q0, hargs, rfl, rfl, t0, r0⟩ := trodAll_cons hA
 obtain ⟨rfl, rfl, rfl⟩ := trodAll_nil r0
 obtain rfl : args = #[v0] := by cases args; simp_all
 obtain ⟨rfl, rfl⟩ := trodVars_none hV
 obtain ⟨cs, rfl, -⟩ := okWide_struct und43 (hval 0 43 v0 rfl rfl)
 have lt0 : ∀ x ∈ p0, x.block < W.heap.size := by obtain ⟨m, hm⟩ := t0; exact DataW.trod_lt m _ _ _ hm
 obtain ⟨G, fv, fs, F, mv, ms, sv, ss, hcs, h1, h2, h3, h4, h5, h6⟩ : ∃ (G : Int) (fv : Value) (fs : List PF) (F : Int) (mv : Value) (ms : List PI) (sv : Value) (ss : List PS), cs = #[vI G, fv, vI F, mv, sv] ∧ FA W fv fs ∧ FineP fs ∧ CA W mv ms ∧ FineC ms ∧ SsA W sv ss ∧ FineS ss := by
  obtain ⟨m, hm⟩ := t0
  obtain ⟨G, fv, fs, F, mv, ms, sv, ss, hcs, h1, h2, h3, h4, h5, h6⟩ := more_sz hm (fun q hq => by
   have := List.all_eq_true.1 hsz q (DataW.weights_mem_each (j := 0) (t := 43) (d := d0) rfl rfl q hq)
   simpa using this)
  refine ⟨G, fv, fs, F, mv, ms, sv, ss, ?_, h1, h2, h3, h4, h5, h6⟩
  have : cs.toList = [vI G, fv, vI F, mv, sv] := by simpa [Value.cells] using hcs
  cases cs; simp_all
 subst hcs
 clear hA0
 refine (grows_any G F fv mv sv fs ms ss W h1 h3 h5 h2 h4 h6 hT hR).mono fun e W' ⟨he, hf⟩ => ?_
 subst he
 have bel : Below W.heap.size W W' := ⟨hf.os, hf.tape, hf.output, hf.size, fun k hk => hf.block k hk (fun h => h)⟩
 exact ⟨_, rfl, _, _, _, [], _, [], hW', trodAll_mk1 (shut_bool under4 _), (trodAll_cons_mk (Below.trod laysOut (by kernel_rfl) (of_decide_eq_true (by kernel_rfl)) t0 bel lt0) trodAll_mk0), rfl, bel.frame _, fun h => by cases h⟩
theorem tab_met (os : Os) : laidMet Tryz.prog Rows.solveGrowsRow.laid (({ World.holding Tryz.prog os ⟨#[], #[], []⟩ with heap := ((World.holding Tryz.prog os ⟨#[], #[], []⟩).heap.modify 2 fun | .cells _ t frozen => .cells #[.int .i64 0, .int .i64 8, .int .i64 0, .int .i64 0, .int .i64 0, .int .i64 0, .int .i64 1, .int .i64 1, .int .i64 1, .int .i64 1, .int .i64 1, .int .i64 2, .int .i64 0, .int .i64 2, .int .i64 2, .int .i64 0, .int .i64 0, .int .i64 0] t frozen | o => o).modify 0 fun | .cells _ t frozen => .cells #[.int .i64 0, .int .i64 0, .int .i64 0, .int .i64 0, .int .i64 0, .int .i64 0, .int .i64 0, .int .i64 0, .int .i64 1, .int .i64 1, .int .i64 2, .int .i64 0, .int .i64 0, .int .i64 0, .int .i64 0, .int .i64 0, .int .i64 0, .int .i64 0, .int .i64 0, .int .i64 0, .int .i64 1, .int .i64 1, .int .i64 2, .int .i64 (-1), .int .i64 1, .int .i64 1, .int .i64 3, .int .i64 (-1), .int .i64 1, .int .i64 1, .int .i64 2, .int .i64 1, .int .i64 1, .int .i64 0, .int .i64 2, .int .i64 0, .int .i64 0, .int .i64 0, .int .i64 0, .int .i64 0, .int .i64 1, .int .i64 0, .int .i64 2, .int .i64 0, .int .i64 3, .int .i64 0, .int .i64 0, .int .i64 0, .int .i64 0, .int .i64 0, .int .i64 0, .int .i64 0, .int .i64 0, .int .i64 0, .int .i64 0, .int .i64 0, .int .i64 0, .int .i64 0, .int .i64 0, .int .i64 0, .int .i64 2, .int .i64 0, .int .i64 0, .int .i64 0, .int .i64 0, .int .i64 0, .int .i64 0, .int .i64 0, .int .i64 0, .int .i64 0, .int .i64 0, .int .i64 0] t frozen | o => o } : World).forCall (fun _ _ => 0) ⟨#[], #[.agg #[.int .i64 0, .slice none 0 0, .int .i64 0, .slice none 0 0, .slice none 0 0]], []⟩).memory :=
 laidMet_of_run' 8 (by kernel_rfl) (by kernel_rfl)
theorem nil_reads (os : Os) {H : Type} (enc : TypeId × Value → H) : ∃ places, DataW.whole enc Tryz.prog (({ World.holding Tryz.prog os ⟨#[], #[], []⟩ with heap := ((World.holding Tryz.prog os ⟨#[], #[], []⟩).heap.modify 2 fun | .cells _ t frozen => .cells #[.int .i64 0, .int .i64 8, .int .i64 0, .int .i64 0, .int .i64 0, .int .i64 0, .int .i64 1, .int .i64 1, .int .i64 1, .int .i64 1, .int .i64 1, .int .i64 2, .int .i64 0, .int .i64 2, .int .i64 2, .int .i64 0, .int .i64 0, .int .i64 0] t frozen | o => o).modify 0 fun | .cells _ t frozen => .cells #[.int .i64 0, .int .i64 0, .int .i64 0, .int .i64 0, .int .i64 0, .int .i64 0, .int .i64 0, .int .i64 0, .int .i64 1, .int .i64 1, .int .i64 2, .int .i64 0, .int .i64 0, .int .i64 0, .int .i64 0, .int .i64 0, .int .i64 0, .int .i64 0, .int .i64 0, .int .i64 0, .int .i64 1, .int .i64 1, .int .i64 2, .int .i64 (-1), .int .i64 1, .int .i64 1, .int .i64 3, .int .i64 (-1), .int .i64 1, .int .i64 1, .int .i64 2, .int .i64 1, .int .i64 1, .int .i64 0, .int .i64 2, .int .i64 0, .int .i64 0, .int .i64 0, .int .i64 0, .int .i64 0, .int .i64 1, .int .i64 0, .int .i64 2, .int .i64 0, .int .i64 3, .int .i64 0, .int .i64 0, .int .i64 0, .int .i64 0, .int .i64 0, .int .i64 0, .int .i64 0, .int .i64 0, .int .i64 0, .int .i64 0, .int .i64 0, .int .i64 0, .int .i64 0, .int .i64 0, .int .i64 0, .int .i64 2, .int .i64 0, .int .i64 0, .int .i64 0, .int .i64 0, .int .i64 0, .int .i64 0, .int .i64 0, .int .i64 0, .int .i64 0, .int .i64 0, .int .i64 0] t frozen | o => o } : World).forCall (fun _ _ => 0) ⟨#[], #[.agg #[.int .i64 0, .slice none 0 0, .int .i64 0, .slice none 0 0, .slice none 0 0]], []⟩).memory Tryz.f4.params.toList Rows.solveGrowsSpec.vars false (#[.agg #[.int .i64 0, .slice none 0 0, .int .i64 0, .slice none 0 0, .slice none 0 0]] : Array Value).toList 8 = some ([.agg [.agg [.lit (.int .i64 0), .nil], .lit (.int .i64 0), .nil, .nil]], [], places) :=
 ⟨[], by kernel_rfl⟩
theorem solveGrows_lifted (os : Os) (started : os.Started) (H : Type) (enc : TypeId × Value → H) (F : Stop.Interp) :
 ReturnsInHanded {} Tryz.checked os 4 .any ((OpenSpec.ofChange Rows.solveGrowsSpec).preRow enc Tryz.prog Tryz.f4 Rows.solveGrowsRow.domain false Rows.solveGrowsRow.laid) (((OpenSpec.ofChange Rows.solveGrowsSpec).at F).post enc Tryz.prog Tryz.f4 false true false false) := by
 obtain ⟨places, hx⟩ := nil_reads os enc
 refine returnsInHanded_of_row (C := Tryz.checked) (s := OpenSpec.ofChange Rows.solveGrowsSpec) knob started (by kernel_rfl) Tryz.func4
  (witness_row_at (enc := enc) (C := Tryz.checked) false ({ World.holding Tryz.prog os ⟨#[], #[], []⟩ with heap := ((World.holding Tryz.prog os ⟨#[], #[], []⟩).heap.modify 2 fun | .cells _ t frozen => .cells #[.int .i64 0, .int .i64 8, .int .i64 0, .int .i64 0, .int .i64 0, .int .i64 0, .int .i64 1, .int .i64 1, .int .i64 1, .int .i64 1, .int .i64 1, .int .i64 2, .int .i64 0, .int .i64 2, .int .i64 2, .int .i64 0, .int .i64 0, .int .i64 0] t frozen | o => o).modify 0 fun | .cells _ t frozen => .cells #[.int .i64 0, .int .i64 0, .int .i64 0, .int .i64 0, .int .i64 0, .int .i64 0, .int .i64 0, .int .i64 0, .int .i64 1, .int .i64 1, .int .i64 2, .int .i64 0, .int .i64 0, .int .i64 0, .int .i64 0, .int .i64 0, .int .i64 0, .int .i64 0, .int .i64 0, .int .i64 0, .int .i64 1, .int .i64 1, .int .i64 2, .int .i64 (-1), .int .i64 1, .int .i64 1, .int .i64 3, .int .i64 (-1), .int .i64 1, .int .i64 1, .int .i64 2, .int .i64 1, .int .i64 1, .int .i64 0, .int .i64 2, .int .i64 0, .int .i64 0, .int .i64 0, .int .i64 0, .int .i64 0, .int .i64 1, .int .i64 0, .int .i64 2, .int .i64 0, .int .i64 3, .int .i64 0, .int .i64 0, .int .i64 0, .int .i64 0, .int .i64 0, .int .i64 0, .int .i64 0, .int .i64 0, .int .i64 0, .int .i64 0, .int .i64 0, .int .i64 0, .int .i64 0, .int .i64 0, .int .i64 0, .int .i64 2, .int .i64 0, .int .i64 0, .int .i64 0, .int .i64 0, .int .i64 0, .int .i64 0, .int .i64 0, .int .i64 0, .int .i64 0, .int .i64 0, .int .i64 0] t frozen | o => o } : World) #[.agg #[.int .i64 0, .slice none 0 0, .int .i64 0, .slice none 0 0, .slice none 0 0]] rfl (by kernel_rfl) (by kernel_rfl) (by kernel_rfl)
    (OpenSpec.preRow_of_cond 8 hx (by kernel_rfl) (fun k hk => by cases hk) (by kernel_rfl) (tab_met os))) ?_
 intro W base args ds gs before hval hW _ _ hsz hL _ _
 exact solveGrows_contract H enc W base args ds gs before hval hW hL hsz
theorem solveGrows_said : Rows.SolveGrowsSaid :=
 OpenClaim.holds_of_cond 4 Tryz.f4 rfl rfl rfl rfl rfl rfl rfl ⟨rfl, rfl, rfl, rfl, rfl⟩ rfl rfl rfl rfl rfl (by kernel_rfl) Tryz.func4 (by kernel_rfl)
  (of_decide_eq_true (by kernel_rfl)) (by unfold Func.isWrapper; first | (rw [if_pos (by decide +kernel)]; kernel_rfl) | (rw [if_neg (by decide +kernel)]; exact ⟨rfl, rfl⟩))
  (fun os started H enc _ F => by rw [OpenClaim.pre_eq_preRow]; exact solveGrows_lifted os started H enc F)
theorem solveGrows_plain (f : FuncId) (fn : Func) (hf : Tryz.pinned.checked.prog.funcNamed "fugue/fuguelaw08.SolveGrows" = some f) (hfn : Tryz.pinned.checked.prog.funcs[f]? = some fn) :
 true = Tryz.pinned.checked.prog.looks [] ∧ ∀ (j : Nat) t, fn.params[j]? = some t → Tryz.pinned.checked.prog.wantsStandIn t = false := by
 obtain rfl : f = 4 := Option.some.inj ((show Tryz.prog.funcNamed "fugue/fuguelaw08.SolveGrows" = some 4 by kernel_rfl).symm.trans hf) |>.symm
 obtain rfl : fn = Tryz.f4 := (Option.some.inj (Tryz.func4.symm.trans hfn)).symm
 refine ⟨by kernel_rfl, fun j t ht => ?_⟩
 rw [params4] at ht
 obtain rfl : t = 43 := by simpa using Array.mem_of_getElem? ht
 exact (show Tryz.prog.wantsStandIn 43 = false by kernel_rfl)
theorem solveGrows_card : Rows.SolveGrowsCardSaid :=
 Claim7.holds_tied_plain_at .later [] _ _ _ _ solveGrows_said (fun _ h => by cases h) (by kernel_rfl) (fun _ h => by cases h) solveGrows_row_tie rfl ⟨rfl, rfl⟩ (by kernel_rfl) rfl solveGrows_plain (by kernel_rfl)
end Go.Proofs.YtdkijecnnmncnaaGreatDoor
