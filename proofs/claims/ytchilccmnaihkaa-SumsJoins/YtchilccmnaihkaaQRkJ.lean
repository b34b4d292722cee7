import Derived.Test.YtchilccmnaihkaaQBaJ
import Derived.Test.YtchilccmnaihkaaRows
import Derived.ProofKit
import Derived.OpenShut
import Derived.ChangeOld
import Derived.Below
import Derived.Carry
import Derived.SizedLaws
import Derived.Deep.SlicePairs
namespace Go.Proofs.Ytchilccmnaihkaa
open Go.ChangeShapes Go.WideShapes Go.ChangeAt Go.RowKit
set_option linter.unusedVariables false
set_option linter.unusedSimpArgs false

theorem knob : ownKnob Try.prog.godebug = none := by kernel_rfl
theorem laysOut : laidOutB Try.prog = true := by kernel_rfl
theorem under3 : Try.prog.underlying 3 = some (.int .i64) := by kernel_rfl
theorem under4 : Try.prog.underlying 4 = some .bool := by kernel_rfl
theorem cells3 : Try.prog.cellsOf 3 = 1 := by kernel_rfl
theorem cells22 : Try.prog.cellsOf 22 = 1 := by kernel_rfl
theorem cells24 : Try.prog.cellsOf 24 = 5 := by kernel_rfl
theorem bytes3 : Try.prog.bytesOf 3 = 8 := by kernel_rfl
theorem reach_is : reachBytes = 140737488351232 := by decide
theorem fr_below {w w' : World} (hf : Fr (fun _ => False) w w') : Below w.heap.size w w' := ⟨hf.os, hf.tape, hf.output, hf.size, fun k hk => hf.block k hk (fun h => h)⟩
theorem cell_lt {w : World} {k o : Nat} {u : Value} (h : w.cell? ⟨k, o, none⟩ = some u) : k < w.heap.size := by
  unfold World.cell? at h
  rcases Nat.lt_or_ge k w.heap.size with hk | hk
  · exact hk
  · simp [Array.getElem?_eq_none hk] at h
theorem ints_of {H : Type} {enc : TypeId × Value → H} {W : World} {n : Nat} {cs : List Value} {x : DataW H × List MemPlace} (h : DataW.trod enc Try.prog W 0 (fun _ => true) true n 3 cs = some x) : ∃ z : Int, cs = [vI z] := by
  obtain ⟨z, e, -, -⟩ := DataW.trod_int under3 h
  exact ⟨z, e⟩

/-- Numbers that came in, among cells. -/
theorem ia_of {H : Type} {enc : TypeId × Value → H} {W : World} {n : Nat} {c : Value} {x : DataW H × List MemPlace} (h : DataW.trod enc Try.prog W 0 (fun _ => true) true n 22 [c] = some x) :
    ∃ zs, IA W c zs ∧ (zs = [] ∨ ∃ q ∈ x.1.weights Try.prog 22, zs.length * 8 ≤ q) := by
  rcases Deep.open_slice1 under22i cells3 h with ⟨hcs, hx⟩ | ⟨a, len, cap, m, k, V, D, Pl, hcs, -, hl, -, hmm, hx, hV⟩
  · have hcs := (List.cons.inj hcs).1
    subst hcs
    exact ⟨[], ⟨none, 0, rfl, fun h => absurd rfl h⟩, Or.inl rfl⟩
  · have hcs := (List.cons.inj hcs).1
    subst hcs
    have hmc : m = cap := by simpa using hmm
    subst hmc
    have hz : ∀ i, i < m → V i = vI (RowKit.intOf (V i)) := fun i hi => by
      obtain ⟨z, hz⟩ := ints_of (hV i hi).2
      have hz := (List.cons.inj hz).1
      rw [hz]
      rfl
    have hlen : ((List.range len).map fun i => RowKit.intOf (V i)).length = len := by simp
    refine ⟨(List.range len).map fun i => RowKit.intOf (V i), ⟨some a, m, by rw [hlen], fun hne => ?_⟩, ?_⟩
    · have hpos : 0 < len := by
        rcases Nat.eq_zero_or_pos len with h0 | h0
        · exfalso; apply hne; rw [h0]; rfl
        · exact h0
      obtain ⟨b, off, spot⟩ := a
      have hspot : spot = none := by
        have := World.cell?_spot (hV 0 (by omega)).1
        simpa [Addr.add] using this
      subst hspot
      have h0 := (hV 0 (by omega)).1
      rw [addr_off] at h0
      refine ⟨b, off, rfl, cell_lt h0, fun j hj => ?_⟩
      have hj' : j < len := by simpa using hj
      have h1 := (hV j (by omega)).1
      rw [addr_off, hz j (by omega)] at h1
      rw [h1]
      simp
    · refine Or.inr ⟨(len + (m - len)) * 8, ?_, by rw [hlen]; omega⟩
      rw [hx]
      simp only [DataW.weights, under22i, bytes3, List.length_map, List.length_range]
      exact List.mem_cons_self

def fld (name : String) (type offset byteOffset : Nat) : Field := { name := name, type := type, offset := offset, embedded := false, tag := "", pkgPath := "", byteOffset := byteOffset }
theorem under24 : Try.prog.underlying 24 = some (.struct #[fld "Params" 3 0 0, fld "Results" 3 1 8, fld "A" 22 2 16, fld "B" 22 3 40, fld "C" 22 4 64]) := by kernel_rfl
theorem len_cons {n : Nat} : ∀ {cs : List Value}, cs.length = n + 1 → ∃ c r, cs = c :: r ∧ r.length = n
  | c :: r, h => ⟨c, r, rfl, by simpa using h⟩

/-- A shape with its numbers that came in. -/
theorem three_of {H : Type} {enc : TypeId × Value → H} {W : World} {n : Nat} {cs : List Value} {x : DataW H × List MemPlace} (h : DataW.trod enc Try.prog W 0 (fun _ => true) true n 24 cs = some x) :
    ∃ (p r : Int) (av bv cv : Value) (la lb lc : List Int), cs = [vI p, vI r, av, bv, cv] ∧ IA W av la ∧ IA W bv lb ∧ IA W cv lc ∧ (la = [] ∨ ∃ q ∈ x.1.weights Try.prog 24, la.length * 8 ≤ q) ∧ (lb = [] ∨ ∃ q ∈ x.1.weights Try.prog 24, lb.length * 8 ≤ q) ∧ (lc = [] ∨ ∃ q ∈ x.1.weights Try.prog 24, lc.length * 8 ≤ q) := by
  obtain ⟨xs, k, -, rfl, hcl, hxl, hf⟩ := DataW.trod_struct under24 h
  rw [cells24] at hcl
  have hxl : xs.length = 5 := hxl
  obtain ⟨c0, r0, rfl, hl1⟩ := len_cons hcl
  obtain ⟨c1, r1, rfl, hl2⟩ := len_cons hl1
  obtain ⟨c2, r2, rfl, hl3⟩ := len_cons hl2
  obtain ⟨c3, r3, rfl, hl4⟩ := len_cons hl3
  obtain ⟨c4, r4, rfl, hl5⟩ := len_cons hl4
  obtain rfl := List.length_eq_zero_iff.1 hl5
  have g0 := hf 0 (fld "Params" 3 0 0) rfl
  have g1 := hf 1 (fld "Results" 3 1 8) rfl
  have g2 := hf 2 (fld "A" 22 2 16) rfl
  have g3 := hf 3 (fld "B" 22 3 40) rfl
  have g4 := hf 4 (fld "C" 22 4 64) rfl
  have e0 : xs[0]? = some (xs[0]'(by omega)) := List.getElem?_eq_getElem (by omega)
  have e1 : xs[1]? = some (xs[1]'(by omega)) := List.getElem?_eq_getElem (by omega)
  have e2 : xs[2]? = some (xs[2]'(by omega)) := List.getElem?_eq_getElem (by omega)
  have e3 : xs[3]? = some (xs[3]'(by omega)) := List.getElem?_eq_getElem (by omega)
  have e4 : xs[4]? = some (xs[4]'(by omega)) := List.getElem?_eq_getElem (by omega)
  rw [e0] at g0
  rw [e1] at g1
  rw [e2] at g2
  rw [e3] at g3
  rw [e4] at g4
  simp only [fld, cells3, cells22, List.drop_zero, List.drop_succ_cons, List.take_succ_cons, List.take_zero] at g0 g1 g2 g3 g4
  obtain ⟨z0, f0⟩ := ints_of g0
  obtain ⟨z1, f1⟩ := ints_of g1
  obtain ⟨la, hA, hAw⟩ := ia_of g2
  obtain ⟨lb, hB, hBw⟩ := ia_of g3
  obtain ⟨lc, hC, hCw⟩ := ia_of g4
  have f0 := (List.cons.inj f0).1
  have f1 := (List.cons.inj f1).1
  subst f0
  subst f1
  refine ⟨z0, z1, c2, c3, c4, la, lb, lc, rfl, hA, hB, hC, ?_, ?_, ?_⟩
  · rcases hAw with hw | ⟨q, hq, hle⟩
    · exact Or.inl hw
    · refine Or.inr ⟨q, ?_, hle⟩
      simp only [DataW.weights, under24]
      exact DataW.weights_mem_each (j := 2) (t := 22) (d := (xs[2]'(by omega)).1) rfl (by rw [List.getElem?_map, e2]; rfl) q hq
  · rcases hBw with hw | ⟨q, hq, hle⟩
    · exact Or.inl hw
    · refine Or.inr ⟨q, ?_, hle⟩
      simp only [DataW.weights, under24]
      exact DataW.weights_mem_each (j := 3) (t := 22) (d := (xs[3]'(by omega)).1) rfl (by rw [List.getElem?_map, e3]; rfl) q hq
  · rcases hCw with hw | ⟨q, hq, hle⟩
    · exact Or.inl hw
    · refine Or.inr ⟨q, ?_, hle⟩
      simp only [DataW.weights, under24]
      exact DataW.weights_mem_each (j := 4) (t := 22) (d := (xs[4]'(by omega)).1) rfl (by rw [List.getElem?_map, e4]; rfl) q hq

/-- The same with its bounds. -/
theorem three_in {H : Type} {enc : TypeId × Value → H} {W : World} {base : Nat} {v : Value} {d : DataW H} {ps : List MemPlace} (hv : Value.okWide Try.prog W .any base 24 v) (h : DataW.Trod enc Try.prog W 0 (fun _ => true) true 24 v d ps) (hsz : ∀ q ∈ d.weights Try.prog 24, q ≤ reachBytes) :
    ∃ (p r : Int) (av bv cv : Value) (la lb lc : List Int), v = .agg #[vI p, vI r, av, bv, cv] ∧ IA W av la ∧ IA W bv lb ∧ IA W cv lc ∧ la.length ≤ 17592186043904 ∧ lb.length ≤ 17592186043904 ∧ lc.length ≤ 17592186043904 := by
  obtain ⟨cs, rfl, -⟩ := okWide_struct under24 hv
  obtain ⟨fuel, hf⟩ := h
  obtain ⟨p, r, av, bv, cv, la, lb, lc, hcs, hA, hB, hC, hAw, hBw, hCw⟩ := three_of hf
  have hr := reach_is
  have bd : ∀ l : List Int, (l = [] ∨ ∃ q ∈ d.weights Try.prog 24, l.length * 8 ≤ q) → l.length ≤ 17592186043904 := fun l hl => by
    rcases hl with rfl | ⟨q, hq, hle⟩
    · simp
    · have := hsz q hq
      omega
  refine ⟨p, r, av, bv, cv, la, lb, lc, ?_, hA, hB, hC, bd _ hAw, bd _ hBw, bd _ hCw⟩
  have : cs.toList = [vI p, vI r, av, bv, cv] := by simpa [Value.cells] using hcs
  rw [show cs = #[vI p, vI r, av, bv, cv] by cases cs; simp_all]

end Go.Proofs.Ytchilccmnaihkaa

namespace Go.Proofs.Ytchilccmnaihkaa
open Go.ChangeShapes Go.WideShapes Go.ChangeAt Go.RowKit
set_option linter.unusedVariables false
set_option linter.unusedSimpArgs false

theorem under5 : Try.prog.underlying 5 = some (.int .u8) := by kernel_rfl
theorem under48 : Try.prog.underlying 48 = some (.slice 24) := by kernel_rfl
theorem bytes24 : Try.prog.bytesOf 24 = 88 := by kernel_rfl
theorem bytes22 : Try.prog.bytesOf 22 = 24 := by kernel_rfl
/-- All that came in lies within the reach. -/
def Szd {H : Type} (d : DataW H) (t : Nat) : Prop := ∀ q ∈ d.weights Try.prog t, q ≤ reachBytes
theorem weightsAll_mem {H : Type} {P : Program} {e : TypeId} {d : DataW H} {n : Nat} (hn : n ∈ d.weights P e) : ∀ {ds : List (DataW H)}, d ∈ ds → n ∈ DataW.weightsAll P e ds
  | a :: r, h => by
    simp only [DataW.weightsAll, List.mem_append]
    rcases List.mem_cons.1 h with rfl | h
    · exact Or.inl hn
    · exact Or.inr (weightsAll_mem hn h)
/-- A slice that came in, element by element, within the reach. -/
theorem rows_sz {H : Type} {enc : TypeId × Value → H} {W : World} {n t e sz by' : Nat} {c : Value} {x : DataW H × List MemPlace} (ht : Try.prog.underlying t = some (.slice e)) (hsz : Try.prog.cellsOf e = sz) (hby : Try.prog.bytesOf e = by') (hs0 : 0 < sz)
    (h : DataW.trod enc Try.prog W 0 (fun _ => true) true n t [c] = some x) (hx : Szd x.1 t) {α : Type} (dflt : α) (Pr : α → List Value → Prop)
    (hel : ∀ n cs (y : DataW H × List MemPlace), DataW.trod enc Try.prog W 0 (fun _ => true) true n e cs = some y → Szd y.1 e → ∃ q, Pr q cs) :
    ∃ l : List α, l.length * by' ≤ reachBytes ∧ ∃ a cp, c = .slice a l.length cp ∧ (l ≠ [] → ∃ k o, a = some ⟨k, o, none⟩ ∧ k < W.heap.size ∧ ∀ j (h : j < l.length), ∃ cs, Pr l[j] cs ∧ ∀ i, i < sz → W.cell? ⟨k, o + j * sz + i, none⟩ = cs[i]?) := by
  rcases Deep.open_slice ht h with ⟨hcs, hx⟩ | ⟨a, len, cap, m, k, D, Pl, hcs, _, hl, hm, hmm, hxx, hc⟩
  · have hcs := (List.cons.inj hcs).1
    subst hcs
    exact ⟨[], by simp, none, 0, rfl, fun h => absurd rfl h⟩
  · have hcs := (List.cons.inj hcs).1
    subst hcs
    have hmc : m = cap := by simpa using hmm
    subst hmc
    have hw : ∀ q, q ∈ (((((List.range len).map D).length + ((List.range (m - len)).map fun j => D (len + j)).length) * by') :: DataW.weightsAll Try.prog e ((List.range len).map D)) → q ≤ reachBytes := by
      intro q hq
      apply hx
      rw [hxx]
      simp only [DataW.weights, ht, hby]
      rcases List.mem_cons.1 hq with rfl | hq
      · exact List.mem_cons_self
      · exact List.mem_cons_of_mem _ (List.mem_append_left _ hq)
    have hlw : len * by' ≤ reachBytes := by
      have := hw _ List.mem_cons_self
      simp only [List.length_map, List.length_range] at this
      exact Nat.le_trans (Nat.mul_le_mul_right by' (by omega)) this
    have hv : ∀ i, ∃ q : α × List Value, i < len → Pr q.1 q.2 ∧ q.2.length = sz ∧ ∀ j, j < sz → W.cell? ((a.add (i * sz)).add j) = q.2[j]? := by
      intro i
      by_cases hi : i < len
      · obtain ⟨cs', r0, r1⟩ := hc i (by omega)
        rw [hsz] at r0
        obtain ⟨-, hcl, hcell⟩ := World.cells?_some r0
        obtain ⟨q, hq⟩ := hel _ _ _ r1 (fun q hq => hw q (List.mem_cons_of_mem _ (weightsAll_mem hq (List.mem_map.2 ⟨i, List.mem_range.2 hi, rfl⟩))))
        exact ⟨(q, cs'), fun _ => ⟨hq, hcl, hcell⟩⟩
      · exact ⟨(dflt, []), fun h => absurd h hi⟩
    obtain ⟨Q, hQ⟩ : ∃ Q : Nat → α × List Value, ∀ i, i < len → Pr (Q i).1 (Q i).2 ∧ (Q i).2.length = sz ∧ ∀ j, j < sz → W.cell? ((a.add (i * sz)).add j) = (Q i).2[j]? :=
      ⟨fun i => (hv i).choose, fun i => (hv i).choose_spec⟩
    have hlen : ((List.range len).map fun i => (Q i).1).length = len := by simp
    refine ⟨(List.range len).map fun i => (Q i).1, by rw [hlen]; exact hlw, some a, m, by rw [hlen], fun hne => ?_⟩
    obtain ⟨b, off, spot⟩ := a
    have hpos : 0 < len := by
      rcases Nat.eq_zero_or_pos len with h0 | h0
      · exfalso; apply hne; rw [h0]; rfl
      · exact h0
    have h00 : W.cell? ((({ block := b, off := off, spot := spot } : Addr).add (0 * sz)).add 0) = some ((Q 0).2[0]'(by rw [(hQ 0 hpos).2.1]; exact hs0)) := by
      rw [(hQ 0 hpos).2.2 0 hs0]; exact List.getElem?_eq_getElem _
    have hspot : spot = none := by
      have := World.cell?_spot h00
      simpa [Addr.add] using this
    subst hspot
    simp only [addr_off] at hQ h00
    refine ⟨b, off, rfl, cell_lt h00, fun j hj => ?_⟩
    have hj' : j < len := by simpa using hj
    refine ⟨(Q j).2, ?_, (hQ j hj').2.2⟩
    have := (hQ j hj').1
    simpa using this


/-- Shapes that came in. -/
theorem th_in {H : Type} {enc : TypeId × Value → H} {W : World} {n : Nat} {c : Value} {x : DataW H × List MemPlace} (h : DataW.trod enc Try.prog W 0 (fun _ => true) true n 48 [c] = some x) (hx : Szd x.1 48) :
    ∃ ts : List T3, ThA W c ts ∧ (∀ t ∈ ts, t.la.length ≤ 17592186043904 ∧ t.lb.length ≤ 17592186043904) ∧ ts.length ≤ 1600000000000 := by
  have hr := reach_is
  obtain ⟨l, hl, a, cp, e, hin⟩ := rows_sz under48 cells24 bytes24 (by omega) h hx (⟨⟨0, 0, [], [], []⟩, .nilIface, .nilIface, .nilIface⟩ : T3 × Value × Value × Value)
    (fun q cs => cs = [vI q.1.p, vI q.1.r, q.2.1, q.2.2.1, q.2.2.2] ∧ IA W q.2.1 q.1.la ∧ IA W q.2.2.1 q.1.lb ∧ IA W q.2.2.2 q.1.lc ∧ q.1.la.length ≤ 17592186043904 ∧ q.1.lb.length ≤ 17592186043904)
    (fun n cs y hy hs => by
      obtain ⟨p, r, av, bv, cv, la, lb, lc, hcs, hA, hB, hC, hAw, hBw, hCw⟩ := three_of hy
      have bd : ∀ l : List Int, (l = [] ∨ ∃ q ∈ y.1.weights Try.prog 24, l.length * 8 ≤ q) → l.length ≤ 17592186043904 := fun l hl => by
        rcases hl with rfl | ⟨q, hq, hle⟩
        · simp
        · have := hs q hq
          omega
      exact ⟨(⟨p, r, la, lb, lc⟩, av, bv, cv), hcs, hA, hB, hC, bd _ hAw, bd _ hBw⟩)
  have hlen : (l.map (·.1)).length = l.length := by simp
  have hall : ∀ j (hj : j < l.length), l[j].1.la.length ≤ 17592186043904 ∧ l[j].1.lb.length ≤ 17592186043904 := fun j hj => by
    obtain ⟨k, o, -, -, hc⟩ := hin (by rintro rfl; simp at hj)
    obtain ⟨cs, ⟨-, -, -, -, q1, q2⟩, -⟩ := hc j hj
    exact ⟨q1, q2⟩
  refine ⟨l.map (·.1), ⟨a, cp, by rw [hlen]; exact e, fun hne => ?_⟩, fun t ht => ?_, by rw [hlen]; omega⟩
  · obtain ⟨k, o, rfl, hk, hc⟩ := hin (by rintro rfl; simp at hne)
    refine ⟨k, o, rfl, hk, fun j hj => ?_⟩
    have hj' : j < l.length := by simpa using hj
    obtain ⟨cs, ⟨hcs, hA, hB, hC, -, -⟩, hcell⟩ := hc j hj'
    have ej : (l.map (·.1))[j] = l[j].1 := by simp
    rw [ej]
    subst hcs
    exact ⟨_, _, _, hcell 0 (by omega), hcell 1 (by omega), hcell 2 (by omega), hcell 3 (by omega), hcell 4 (by omega), hA, hB, hC⟩
  · obtain ⟨j, hj, rfl⟩ := List.mem_iff_getElem.1 ht
    have hj' : j < l.length := by simpa using hj
    have ej : (l.map (·.1))[j] = l[j].1 := by simp
    rw [ej]
    exact hall j hj'

end Go.Proofs.Ytchilccmnaihkaa
