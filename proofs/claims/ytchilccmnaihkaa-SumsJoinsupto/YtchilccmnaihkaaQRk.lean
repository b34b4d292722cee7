import Derived.Test.YtchilccmnaihkaaQBaJ
import Derived.Test.YtchilccmnaihkaaRows
import Derived.ProofKit
import Derived.OpenShut
import Derived.ChangeOld
import Derived.Below
import Derived.Carry
import Derived.SizedLaws
import Derived.Deep.SlicePairs
namespace Go.Proofs.Ytchilccmnaihkaa
open Go.ChangeShapes Go.WideShapes Go.ChangeAt Go.RowKit
set_option linter.unusedVariables false
set_option linter.unusedSimpArgs false

theorem knob : ownKnob Try.prog.godebug = none := by kernel_rfl
theorem laysOut : laidOutB Try.prog = true := by kernel_rfl
theorem under3 : Try.prog.underlying 3 = some (.int .i64) := by kernel_rfl
theorem under4 : Try.prog.underlying 4 = some .bool := by kernel_rfl
theorem cells3 : Try.prog.cellsOf 3 = 1 := by kernel_rfl
theorem cells22 : Try.prog.cellsOf 22 = 1 := by kernel_rfl
theorem cells24 : Try.prog.cellsOf 24 = 5 := by kernel_rfl
theorem bytes3 : Try.prog.bytesOf 3 = 8 := by kernel_rfl
theorem reach_is : reachBytes = 140737488351232 := by decide
theorem fr_below {w w' : World} (hf : Fr (fun _ => False) w w') : Below w.heap.size w w' := ⟨hf.os, hf.tape, hf.output, hf.size, fun k hk => hf.block k hk (fun h => h)⟩
theorem cell_lt {w : World} {k o : Nat} {u : Value} (h : w.cell? ⟨k, o, none⟩ = some u) : k < w.heap.size := by
  unfold World.cell? at h
  rcases Nat.lt_or_ge k w.heap.size with hk | hk
  · exact hk
  · simp [Array.getElem?_eq_none hk] at h
theorem ints_of {H : Type} {enc : TypeId × Value → H} {W : World} {n : Nat} {cs : List Value} {x : DataW H × List MemPlace} (h : DataW.trod enc Try.prog W 0 (fun _ => true) true n 3 cs = some x) : ∃ z : Int, cs = [vI z] := by
  obtain ⟨z, e, -, -⟩ := DataW.trod_int under3 h
  exact ⟨z, e⟩

/-- Numbers that came in, among cells. -/
theorem ia_of {H : Type} {enc : TypeId × Value → H} {W : World} {n : Nat} {c : Value} {x : DataW H × List MemPlace} (h : DataW.trod enc Try.prog W 0 (fun _ => true) true n 22 [c] = some x) :
    ∃ zs, IA W c zs ∧ (zs = [] ∨ ∃ q ∈ x.1.weights Try.prog 22, zs.length * 8 ≤ q) := by
  rcases Deep.open_slice1 under22i cells3 h with ⟨hcs, hx⟩ | ⟨a, len, cap, m, k, V, D, Pl, hcs, -, hl, -, hmm, hx, hV⟩
  · have hcs := (List.cons.inj hcs).1
    subst hcs
    exact ⟨[], ⟨none, 0, rfl, fun h => absurd rfl h⟩, Or.inl rfl⟩
  · have hcs := (List.cons.inj hcs).1
    subst hcs
    have hmc : m = cap := by simpa using hmm
    subst hmc
    have hz : ∀ i, i < m → V i = vI (RowKit.intOf (V i)) := fun i hi => by
      obtain ⟨z, hz⟩ := ints_of (hV i hi).2
      have hz := (List.cons.inj hz).1
      rw [hz]
      rfl
    have hlen : ((List.range len).map fun i => RowKit.intOf (V i)).length = len := by simp
    refine ⟨(List.range len).map fun i => RowKit.intOf (V i), ⟨some a, m, by rw [hlen], fun hne => ?_⟩, ?_⟩
    · have hpos : 0 < len := by
        rcases Nat.eq_zero_or_pos len with h0 | h0
        · exfalso; apply hne; rw [h0]; rfl
        · exact h0
      obtain ⟨b, off, spot⟩ := a
      have hspot : spot = none := by
        have := World.cell?_spot (hV 0 (by omega)).1
        simpa [Addr.add] using this
      subst hspot
      have h0 := (hV 0 (by omega)).1
      rw [addr_off] at h0
      refine ⟨b, off, rfl, cell_lt h0, fun j hj => ?_⟩
      have hj' : j < len := by simpa using hj
      have h1 := (hV j (by omega)).1
      rw [addr_off, hz j (by omega)] at h1
      rw [h1]
      simp
    · refine Or.inr ⟨(len + (m - len)) * 8, ?_, by rw [hlen]; omega⟩
      rw [hx]
      simp only [DataW.weights, under22i, bytes3, List.length_map, List.length_range]
      exact List.mem_cons_self

def fld (name : String) (type offset byteOffset : Nat) : Field := { name := name, type := type, offset := offset, embedded := false, tag := "", pkgPath := "", byteOffset := byteOffset }
theorem under24 : Try.prog.underlying 24 = some (.struct #[fld "Params" 3 0 0, fld "Results" 3 1 8, fld "A" 22 2 16, fld "B" 22 3 40, fld "C" 22 4 64]) := by kernel_rfl
theorem len_cons {n : Nat} : ∀ {cs : List Value}, cs.length = n + 1 → ∃ c r, cs = c :: r ∧ r.length = n
  | c :: r, h => ⟨c, r, rfl, by simpa using h⟩

/-- A shape with its numbers that came in. -/
theorem three_of {H : Type} {enc : TypeId × Value → H} {W : World} {n : Nat} {cs : List Value} {x : DataW H × List MemPlace} (h : DataW.trod enc Try.prog W 0 (fun _ => true) true n 24 cs = some x) :
    ∃ (p r : Int) (av bv cv : Value) (la lb lc : List Int), cs = [vI p, vI r, av, bv, cv] ∧ IA W av la ∧ IA W bv lb ∧ IA W cv lc ∧ (la = [] ∨ ∃ q ∈ x.1.weights Try.prog 24, la.length * 8 ≤ q) ∧ (lb = [] ∨ ∃ q ∈ x.1.weights Try.prog 24, lb.length * 8 ≤ q) ∧ (lc = [] ∨ ∃ q ∈ x.1.weights Try.prog 24, lc.length * 8 ≤ q) := by
  obtain ⟨xs, k, -, rfl, hcl, hxl, hf⟩ := DataW.trod_struct under24 h
  rw [cells24] at hcl
  have hxl : xs.length = 5 := hxl
  obtain ⟨c0, r0, rfl, hl1⟩ := len_cons hcl
  obtain ⟨c1, r1, rfl, hl2⟩ := len_cons hl1
  obtain ⟨c2, r2, rfl, hl3⟩ := len_cons hl2
  obtain ⟨c3, r3, rfl, hl4⟩ := len_cons hl3
  obtain ⟨c4, r4, rfl, hl5⟩ := len_cons hl4
  obtain rfl := List.length_eq_zero_iff.1 hl5
  have g0 := hf 0 (fld "Params" 3 0 0) rfl
  have g1 := hf 1 (fld "Results" 3 1 8) rfl
  have g2 := hf 2 (fld "A" 22 2 16) rfl
  have g3 := hf 3 (fld "B" 22 3 40) rfl
  have g4 := hf 4 (fld "C" 22 4 64) rfl
  have e0 : xs[0]? = some (xs[0]'(by omega)) := List.getElem?_eq_getElem (by omega)
  have e1 : xs[1]? = some (xs[1]'(by omega)) := List.getElem?_eq_getElem (by omega)
  have e2 : xs[2]? = some (xs[2]'(by omega)) := List.getElem?_eq_getElem (by omega)
  have e3 : xs[3]? = some (xs[3]'(by omega)) := List.getElem?_eq_getElem (by omega)
  have e4 : xs[4]? = some (xs[4]'(by omega)) := List.getElem?_eq_getElem (by omega)
  rw [e0] at g0
  rw [e1] at g1
  rw [e2] at g2
  rw [e3] at g3
  rw [e4] at g4
  simp only [fld, cells3, cells22, List.drop_zero, List.drop_succ_cons, List.take_succ_cons, List.take_zero] at g0 g1 g2 g3 g4
  obtain ⟨z0, f0⟩ := ints_of g0
  obtain ⟨z1, f1⟩ := ints_of g1
  obtain ⟨la, hA, hAw⟩ := ia_of g2
  obtain ⟨lb, hB, hBw⟩ := ia_of g3
  obtain ⟨lc, hC, hCw⟩ := ia_of g4
  have f0 := (List.cons.inj f0).1
  have f1 := (List.cons.inj f1).1
  subst f0
  subst f1
  refine ⟨z0, z1, c2, c3, c4, la, lb, lc, rfl, hA, hB, hC, ?_, ?_, ?_⟩
  · rcases hAw with hw | ⟨q, hq, hle⟩
    · exact Or.inl hw
    · refine Or.inr ⟨q, ?_, hle⟩
      simp only [DataW.weights, under24]
      exact DataW.weights_mem_each (j := 2) (t := 22) (d := (xs[2]'(by omega)).1) rfl (by rw [List.getElem?_map, e2]; rfl) q hq
  · rcases hBw with hw | ⟨q, hq, hle⟩
    · exact Or.inl hw
    · refine Or.inr ⟨q, ?_, hle⟩
      simp only [DataW.weights, under24]
      exact DataW.weights_mem_each (j := 3) (t := 22) (d := (xs[3]'(by omega)).1) rfl (by rw [List.getElem?_map, e3]; rfl) q hq
  · rcases hCw with hw | ⟨q, hq, hle⟩
    · exact Or.inl hw
    · refine Or.inr ⟨q, ?_, hle⟩
      simp only [DataW.weights, under24]
      exact DataW.weights_mem_each (j := 4) (t := 22) (d := (xs[4]'(by omega)).1) rfl (by rw [List.getElem?_map, e4]; rfl) q hq

/-- The same with its bounds. -/
theorem three_in {H : Type} {enc : TypeId × Value → H} {W : World} {base : Nat} {v : Value} {d : DataW H} {ps : List MemPlace} (hv : Value.okWide Try.prog W .any base 24 v) (h : DataW.Trod enc Try.prog W 0 (fun _ => true) true 24 v d ps) (hsz : ∀ q ∈ d.weights Try.prog 24, q ≤ reachBytes) :
    ∃ (p r : Int) (av bv cv : Value) (la lb lc : List Int), v = .agg #[vI p, vI r, av, bv, cv] ∧ IA W av la ∧ IA W bv lb ∧ IA W cv lc ∧ la.length ≤ 17592186043904 ∧ lb.length ≤ 17592186043904 ∧ lc.length ≤ 17592186043904 := by
  obtain ⟨cs, rfl, -⟩ := okWide_struct under24 hv
  obtain ⟨fuel, hf⟩ := h
  obtain ⟨p, r, av, bv, cv, la, lb, lc, hcs, hA, hB, hC, hAw, hBw, hCw⟩ := three_of hf
  have hr := reach_is
  have bd : ∀ l : List Int, (l = [] ∨ ∃ q ∈ d.weights Try.prog 24, l.length * 8 ≤ q) → l.length ≤ 17592186043904 := fun l hl => by
    rcases hl with rfl | ⟨q, hq, hle⟩
    · simp
    · have := hsz q hq
      omega
  refine ⟨p, r, av, bv, cv, la, lb, lc, ?_, hA, hB, hC, bd _ hAw, bd _ hBw, bd _ hCw⟩
  have : cs.toList = [vI p, vI r, av, bv, cv] := by simpa [Value.cells] using hcs
  rw [show cs = #[vI p, vI r, av, bv, cv] by cases cs; simp_all]

end Go.Proofs.Ytchilccmnaihkaa
