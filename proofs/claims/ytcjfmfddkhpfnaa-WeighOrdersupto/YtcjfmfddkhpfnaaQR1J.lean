import Derived.Test.YtcjfmfddkhpfnaaQA8J
import Derived.Test.YtcjfmfddkhpfnaaRows
import Derived.ProofKit
import Derived.OpenShut
import Derived.ChangeOld
import Derived.Below
import Derived.Carry
import Derived.SizedLaws
import Derived.Deep.SlicePairs
import Derived.Test.YtcjfmfddkhpfnaaQO1
import Derived.JoinedCond
import Derived.Test.YtcjfmfddkhpfnaaQO5
namespace Go.Proofs.Ytcjfmfddkhpfnaa
open Go.ChangeShapes Go.WideShapes Go.ChangeAt Go.RowKit
set_option linter.unusedVariables false
set_option linter.unusedSimpArgs false

theorem knob : ownKnob Try.prog.godebug = none := by kernel_rfl
theorem laysOut : laidOutB Try.prog = true := by kernel_rfl
theorem under3 : Try.prog.underlying 3 = some (.int .i64) := by kernel_rfl
theorem under4 : Try.prog.underlying 4 = some .bool := by kernel_rfl
theorem cells3 : Try.prog.cellsOf 3 = 1 := by kernel_rfl
theorem cells27 : Try.prog.cellsOf 27 = 3 := by kernel_rfl
theorem bytes3 : Try.prog.bytesOf 3 = 8 := by kernel_rfl
theorem bytes27 : Try.prog.bytesOf 27 = 24 := by kernel_rfl
theorem reach_is : reachBytes = 140737488351232 := by decide
theorem fr_below {w w' : World} (hf : Fr (fun _ => False) w w') : Below w.heap.size w w' := ⟨hf.os, hf.tape, hf.output, hf.size, fun k hk => hf.block k hk (fun h => h)⟩

end Go.Proofs.Ytcjfmfddkhpfnaa

namespace Go.Proofs.Ytcjfmfddkhpfnaa
open Go.ChangeShapes Go.WideShapes Go.ChangeAt Go.RowKit
set_option linter.unusedVariables false
set_option linter.unusedSimpArgs false

theorem cell_lt {w : World} {k o : Nat} {u : Value} (h : w.cell? ⟨k, o, none⟩ = some u) : k < w.heap.size := by
  unfold World.cell? at h
  rcases Nat.lt_or_ge k w.heap.size with hk | hk
  · exact hk
  · simp [Array.getElem?_eq_none hk] at h
theorem ints_of {H : Type} {enc : TypeId × Value → H} {W : World} {n : Nat} {cs : List Value} {x : DataW H × List MemPlace} (h : DataW.trod enc Try.prog W 0 (fun _ => true) true n 3 cs = some x) : ∃ z : Int, cs = [vI z] := by
  obtain ⟨z, e, -, -⟩ := DataW.trod_int under3 h
  exact ⟨z, e⟩

/-- Numbers that came in, among cells. -/
theorem intsAt_of {H : Type} {enc : TypeId × Value → H} {W : World} {n : Nat} {c : Value} {x : DataW H × List MemPlace} (h : DataW.trod enc Try.prog W 0 (fun _ => true) true n 22 [c] = some x) :
    ∃ zs, IntsAt W.heap.size W c zs ∧ (zs = [] ∨ ∃ q ∈ x.1.weights Try.prog 22, zs.length * 8 ≤ q) := by
  rcases Deep.open_slice1 under22 cells3 h with ⟨hcs, hx⟩ | ⟨a, len, cap, m, k, V, D, Pl, hcs, -, hl, -, hmm, hx, hV⟩
  · have hcs := (List.cons.inj hcs).1
    subst hcs
    exact ⟨[], ⟨none, 0, rfl, Nat.le_refl _, fun h => absurd rfl h⟩, Or.inl rfl⟩
  · have hcs := (List.cons.inj hcs).1
    subst hcs
    have hmc : m = cap := by simpa using hmm
    subst hmc
    have hz : ∀ i, i < m → V i = vI (RowKit.intOf (V i)) := fun i hi => by
      obtain ⟨z, hz⟩ := ints_of (hV i hi).2
      have hz := (List.cons.inj hz).1
      rw [hz]
      rfl
    have hlen : ((List.range len).map fun i => RowKit.intOf (V i)).length = len := by simp
    refine ⟨(List.range len).map fun i => RowKit.intOf (V i), ⟨some a, m, by rw [hlen], by rw [hlen]; omega, fun hne => ?_⟩, ?_⟩
    · have hpos : 0 < len := by
        rcases Nat.eq_zero_or_pos len with h0 | h0
        · exfalso; apply hne; rw [h0]; rfl
        · exact h0
      obtain ⟨b, off, spot⟩ := a
      have hspot : spot = none := by
        have := World.cell?_spot (hV 0 (by omega)).1
        simpa [Addr.add] using this
      subst hspot
      have h0 := (hV 0 (by omega)).1
      rw [addr_off] at h0
      refine ⟨b, off, rfl, cell_lt h0, fun j hj => ?_⟩
      have hj' : j < len := by simpa using hj
      have h1 := (hV j (by omega)).1
      rw [addr_off, hz j (by omega)] at h1
      rw [h1]
      simp
    · refine Or.inr ⟨(len + (m - len)) * 8, ?_, by rw [hlen]; omega⟩
      rw [hx]
      simp only [DataW.weights, under22, bytes3, List.length_map, List.length_range]
      exact List.mem_cons_self

def fld (name : String) (type offset byteOffset : Nat) : Field := { name := name, type := type, offset := offset, embedded := false, tag := "", pkgPath := "", byteOffset := byteOffset }
theorem under27 : Try.prog.underlying 27 = some (.struct #[fld "Dst" 3 0 0, fld "Src" 3 1 8, fld "Derefs" 3 2 16]) := by kernel_rfl
theorem under34 : Try.prog.underlying 34 = some (.struct #[fld "Locations" 3 0 0, fld "Edges" 24 1 8, fld "Roots" 22 2 32]) := by kernel_rfl
theorem cells22 : Try.prog.cellsOf 22 = 1 := by kernel_rfl
theorem cells24 : Try.prog.cellsOf 24 = 1 := by kernel_rfl
theorem cells34 : Try.prog.cellsOf 34 = 3 := by kernel_rfl
theorem len_cons {n : Nat} : ∀ {cs : List Value}, cs.length = n + 1 → ∃ c r, cs = c :: r ∧ r.length = n
  | c :: r, h => ⟨c, r, rfl, by simpa using h⟩

/-- An edge that came in, out of its cells. -/
theorem edge_of {H : Type} {enc : TypeId × Value → H} {W : World} {n : Nat} {cs : List Value} {x : DataW H × List MemPlace} (h : DataW.trod enc Try.prog W 0 (fun _ => true) true n 27 cs = some x) : ∃ e : Ed, cs = [vI e.1, vI e.2.1, vI e.2.2] := by
  obtain ⟨xs, k, -, -, hcl, hxl, hf⟩ := DataW.trod_struct under27 h
  rw [cells27] at hcl
  have hxl : xs.length = 3 := hxl
  obtain ⟨c0, r0, rfl, hl1⟩ := len_cons hcl
  obtain ⟨c1, r1, rfl, hl2⟩ := len_cons hl1
  obtain ⟨c2, r2, rfl, hl3⟩ := len_cons hl2
  obtain rfl := List.length_eq_zero_iff.1 hl3
  have g0 := hf 0 (fld "Dst" 3 0 0) rfl
  have g1 := hf 1 (fld "Src" 3 1 8) rfl
  have g2 := hf 2 (fld "Derefs" 3 2 16) rfl
  rw [List.getElem?_eq_getElem (by omega)] at g0 g1 g2
  simp only [fld, cells3, List.drop_zero, List.drop_succ_cons, List.take_succ_cons, List.take_zero] at g0 g1 g2
  obtain ⟨z0, e0⟩ := ints_of g0
  obtain ⟨z1, e1⟩ := ints_of g1
  obtain ⟨z2, e2⟩ := ints_of g2
  have e0 := (List.cons.inj e0).1
  have e1 := (List.cons.inj e1).1
  have e2 := (List.cons.inj e2).1
  exact ⟨(z0, z1, z2), by rw [e0, e1, e2]⟩

/-- Edges that came in, among cells. -/
theorem edgesAt_of {H : Type} {enc : TypeId × Value → H} {W : World} {n : Nat} {c : Value} {x : DataW H × List MemPlace} (h : DataW.trod enc Try.prog W 0 (fun _ => true) true n 24 [c] = some x) :
    ∃ es, EdgesAt W.heap.size W c es ∧ (es = [] ∨ ∃ q ∈ x.1.weights Try.prog 24, es.length * 24 ≤ q) := by
  rcases Deep.open_slice under24 h with ⟨hcs, hx⟩ | ⟨a, len, cap, m, k, D, Pl, hcs, _, hl, hm, hmm, hx, hc⟩
  · have hcs := (List.cons.inj hcs).1
    subst hcs
    exact ⟨[], ⟨none, 0, rfl, Nat.le_refl _, fun h => absurd rfl h⟩, Or.inl rfl⟩
  · have hcs := (List.cons.inj hcs).1
    subst hcs
    have hmc : m = cap := by simpa using hmm
    subst hmc
    have hv : ∀ i, ∃ e : Ed, i < len → W.cell? ((a.add (i * 3)).add 0) = some (vI e.1) ∧ W.cell? ((a.add (i * 3)).add 1) = some (vI e.2.1) ∧ W.cell? ((a.add (i * 3)).add 2) = some (vI e.2.2) := by
      intro i
      by_cases hi : i < len
      · obtain ⟨cs', r0, r1⟩ := hc i (by omega)
        rw [cells27] at r0
        obtain ⟨-, -, hcell⟩ := World.cells?_some r0
        obtain ⟨e, rfl⟩ := edge_of r1
        exact ⟨e, fun _ => ⟨by rw [hcell 0 (by omega)]; rfl, by rw [hcell 1 (by omega)]; rfl, by rw [hcell 2 (by omega)]; rfl⟩⟩
      · exact ⟨(0, 0, 0), fun h => absurd h hi⟩
    obtain ⟨Q, hQ⟩ : ∃ Q : Nat → Ed, ∀ i, i < len → W.cell? ((a.add (i * 3)).add 0) = some (vI (Q i).1) ∧ W.cell? ((a.add (i * 3)).add 1) = some (vI (Q i).2.1) ∧ W.cell? ((a.add (i * 3)).add 2) = some (vI (Q i).2.2) :=
      ⟨fun i => (hv i).choose, fun i => (hv i).choose_spec⟩
    have hlen : ((List.range len).map Q).length = len := by simp
    refine ⟨(List.range len).map Q, ⟨some a, m, by rw [hlen], by rw [hlen]; omega, fun hne => ?_⟩, ?_⟩
    · have hpos : 0 < len := by
        rcases Nat.eq_zero_or_pos len with h0 | h0
        · exfalso; apply hne; rw [h0]; rfl
        · exact h0
      obtain ⟨b, off, spot⟩ := a
      have hspot : spot = none := by
        have := World.cell?_spot (hQ 0 hpos).1
        simpa [Addr.add] using this
      subst hspot
      simp only [addr_off] at hQ
      refine ⟨b, off, rfl, cell_lt (hQ 0 hpos).1, fun i hi => ?_⟩
      have hi' : i < len := by simpa using hi
      simpa using hQ i hi'
    · refine Or.inr ⟨(len + (m - len)) * 24, ?_, by rw [hlen]; omega⟩
      rw [hx]
      simp only [DataW.weights, under24, bytes27, List.length_map, List.length_range]
      exact List.mem_cons_self

/-- A graph that came in. -/
theorem graph_of {H : Type} {enc : TypeId × Value → H} {W : World} {n : Nat} {cs : List Value} {x : DataW H × List MemPlace} (h : DataW.trod enc Try.prog W 0 (fun _ => true) true n 34 cs = some x) :
    ∃ (l : Int) (ev rv : Value) (es : List Ed) (rs : List Int), cs = [vI l, ev, rv] ∧ EdgesAt W.heap.size W ev es ∧ IntsAt W.heap.size W rv rs ∧ (es = [] ∨ ∃ q ∈ x.1.weights Try.prog 34, es.length * 24 ≤ q) ∧ (rs = [] ∨ ∃ q ∈ x.1.weights Try.prog 34, rs.length * 8 ≤ q) := by
  obtain ⟨xs, k, -, rfl, hcl, hxl, hf⟩ := DataW.trod_struct under34 h
  rw [cells34] at hcl
  have hxl : xs.length = 3 := hxl
  obtain ⟨c0, r0, rfl, hl1⟩ := len_cons hcl
  obtain ⟨c1, r1, rfl, hl2⟩ := len_cons hl1
  obtain ⟨c2, r2, rfl, hl3⟩ := len_cons hl2
  obtain rfl := List.length_eq_zero_iff.1 hl3
  have g0 := hf 0 (fld "Locations" 3 0 0) rfl
  have g1 := hf 1 (fld "Edges" 24 1 8) rfl
  have g2 := hf 2 (fld "Roots" 22 2 32) rfl
  have e0 : xs[0]? = some (xs[0]'(by omega)) := List.getElem?_eq_getElem (by omega)
  have e1 : xs[1]? = some (xs[1]'(by omega)) := List.getElem?_eq_getElem (by omega)
  have e2 : xs[2]? = some (xs[2]'(by omega)) := List.getElem?_eq_getElem (by omega)
  rw [e0] at g0
  rw [e1] at g1
  rw [e2] at g2
  simp only [fld, cells3, cells22, cells24, List.drop_zero, List.drop_succ_cons, List.take_succ_cons, List.take_zero] at g0 g1 g2
  obtain ⟨z0, f0⟩ := ints_of g0
  obtain ⟨es, hE, hEw⟩ := edgesAt_of g1
  obtain ⟨rs, hR, hRw⟩ := intsAt_of g2
  have f0 := (List.cons.inj f0).1
  subst f0
  refine ⟨z0, c1, c2, es, rs, rfl, hE, hR, ?_, ?_⟩
  · rcases hEw with hw | ⟨q, hq, hle⟩
    · exact Or.inl hw
    · refine Or.inr ⟨q, ?_, hle⟩
      simp only [DataW.weights, under34]
      exact DataW.weights_mem_each (j := 1) (t := 24) (d := (xs[1]'(by omega)).1) rfl (by rw [List.getElem?_map, e1]; rfl) q hq
  · rcases hRw with hw | ⟨q, hq, hle⟩
    · exact Or.inl hw
    · refine Or.inr ⟨q, ?_, hle⟩
      simp only [DataW.weights, under34]
      exact DataW.weights_mem_each (j := 2) (t := 22) (d := (xs[2]'(by omega)).1) rfl (by rw [List.getElem?_map, e2]; rfl) q hq

end Go.Proofs.Ytcjfmfddkhpfnaa

namespace Go.Proofs.Ytcjfmfddkhpfnaa
open Go.ChangeShapes Go.WideShapes Go.ChangeAt Go.RowKit
set_option linter.unusedVariables false
set_option linter.unusedSimpArgs false

/-- A graph that came in, with its bounds. -/
theorem graph_in {H : Type} {enc : TypeId × Value → H} {W : World} {base : Nat} {v : Value} {d : DataW H} {ps : List MemPlace} (hv : Value.okWide Try.prog W .any base 34 v) (h : DataW.Trod enc Try.prog W 0 (fun _ => true) true 34 v d ps) (hsz : ∀ q ∈ d.weights Try.prog 34, q ≤ reachBytes) :
    ∃ (l : Int) (ev rv : Value) (es : List Ed) (rs : List Int), v = .agg #[vI l, ev, rv] ∧ EdgesAt W.heap.size W ev es ∧ IntsAt W.heap.size W rv rs ∧ es.length ≤ 5864062014634 ∧ rs.length ≤ 17592186043904 := by
  obtain ⟨cs, rfl, -⟩ := okWide_struct under34 hv
  obtain ⟨fuel, hf⟩ := h
  obtain ⟨l, ev, rv, es, rs, hcs, hE, hR, hEw, hRw⟩ := graph_of hf
  have hr := reach_is
  refine ⟨l, ev, rv, es, rs, ?_, hE, hR, ?_, ?_⟩
  · have : cs.toList = [vI l, ev, rv] := by simpa [Value.cells] using hcs
    rw [show cs = #[vI l, ev, rv] by cases cs; simp_all]
  · rcases hEw with rfl | ⟨q, hq, hle⟩
    · simp
    · have := hsz q hq
      omega
  · rcases hRw with rfl | ⟨q, hq, hle⟩
    · simp
    · have := hsz q hq
      omega

end Go.Proofs.Ytcjfmfddkhpfnaa

namespace Go.Proofs.Ytcjfmfddkhpfnaa
open Go.ChangeShapes Go.WideShapes Go.ChangeAt Go.RowKit
set_option linter.unusedVariables false
set_option linter.unusedSimpArgs false

theorem bulk_pos {H : Type} (d : DataW H) : 1 ≤ Rows.uptoBulk d := by
  cases d with
  | lit l => cases l <;> simp [Rows.uptoBulk]
  | _ => simp [Rows.uptoBulk]

theorem bulk_len {H : Type} : ∀ (l : List (DataW H)), l.length ≤ Rows.uptoBulkAll l
  | [] => by simp
  | d :: r => by
    have h1 := bulk_pos d
    have h2 := bulk_len r
    simp only [Rows.uptoBulkAll, List.length_cons]
    omega
theorem bulk_mem {H : Type} : ∀ {l : List (DataW H)} {d : DataW H}, d ∈ l → Rows.uptoBulk d ≤ Rows.uptoBulkAll l
  | a :: r, d, h => by
    simp only [Rows.uptoBulkAll]
    rcases List.mem_cons.1 h with rfl | h
    · omega
    · have := bulk_mem h; omega

/-- How long a slice is that came in. -/
theorem slice_bulk {H : Type} {enc : TypeId × Value → H} {W : World} {n t e : Nat} {a : Option Addr} {len cap : Nat} {x : DataW H × List MemPlace} (ht : Try.prog.underlying t = some (.slice e)) (h : DataW.trod enc Try.prog W 0 (fun _ => true) true n t [.slice a len cap] = some x) : len ≤ Rows.uptoBulk x.1 := by
  rcases Deep.open_slice ht h with ⟨hcs, hx⟩ | ⟨a', len', cap', m, k, D, Pl, hcs, _, hl, hm, hmm, hx, hc⟩
  · simp at hcs
    omega
  · simp at hcs
    obtain ⟨rfl, rfl, rfl⟩ := hcs
    have h1 := bulk_len ((List.range len).map D)
    rw [hx]
    simp only [Rows.uptoBulk]
    simp only [List.length_map, List.length_range] at h1
    omega

/-- A graph that came in, with its bulk. -/
theorem graph_bulk {H : Type} {enc : TypeId × Value → H} {W : World} {base : Nat} {v : Value} {d : DataW H} {ps : List MemPlace} (hv : Value.okWide Try.prog W .any base 34 v) (h : DataW.Trod enc Try.prog W 0 (fun _ => true) true 34 v d ps) :
    ∃ (l : Int) (ev rv : Value) (es : List Ed) (rs : List Int), v = .agg #[vI l, ev, rv] ∧ EdgesAt W.heap.size W ev es ∧ IntsAt W.heap.size W rv rs ∧ es.length ≤ Rows.uptoBulk d ∧ rs.length ≤ Rows.uptoBulk d := by
  obtain ⟨cs, rfl, -⟩ := okWide_struct under34 hv
  obtain ⟨fuel, hf0⟩ := h
  obtain ⟨xs, k, -, hd, hcl, hxl, hf⟩ := DataW.trod_struct under34 hf0
  have hcs0 : (Value.agg cs).cells.toList = cs.toList := by simp [Value.cells]
  rw [hcs0] at hcl hf
  rw [cells34] at hcl
  have hxl : xs.length = 3 := hxl
  obtain ⟨c0, r0, hr0, hl1⟩ := len_cons hcl
  obtain ⟨c1, r1, rfl, hl2⟩ := len_cons hl1
  obtain ⟨c2, r2, rfl, hl3⟩ := len_cons hl2
  obtain rfl := List.length_eq_zero_iff.1 hl3
  rw [hr0] at hf
  have g0 := hf 0 (fld "Locations" 3 0 0) rfl
  have g1 := hf 1 (fld "Edges" 24 1 8) rfl
  have g2 := hf 2 (fld "Roots" 22 2 32) rfl
  have e0 : xs[0]? = some (xs[0]'(by omega)) := List.getElem?_eq_getElem (by omega)
  have e1 : xs[1]? = some (xs[1]'(by omega)) := List.getElem?_eq_getElem (by omega)
  have e2 : xs[2]? = some (xs[2]'(by omega)) := List.getElem?_eq_getElem (by omega)
  rw [e0] at g0
  rw [e1] at g1
  rw [e2] at g2
  simp only [fld, cells3, cells22, cells24, List.drop_zero, List.drop_succ_cons, List.take_succ_cons, List.take_zero] at g0 g1 g2
  obtain ⟨z0, f0⟩ := ints_of g0
  obtain ⟨es, hE, -⟩ := edgesAt_of g1
  obtain ⟨rs, hR, -⟩ := intsAt_of g2
  have f0 := (List.cons.inj f0).1
  subst f0
  have hd1 : d = .agg (xs.map (·.1)) := congrArg Prod.fst hd
  have b1 : Rows.uptoBulk (xs[1]'(by omega)).1 ≤ Rows.uptoBulk d := by
    have := bulk_mem (l := xs.map (·.1)) (List.mem_map.2 ⟨xs[1]'(by omega), List.getElem_mem _, rfl⟩)
    rw [hd1]
    simp only [Rows.uptoBulk]
    omega
  have b2 : Rows.uptoBulk (xs[2]'(by omega)).1 ≤ Rows.uptoBulk d := by
    have := bulk_mem (l := xs.map (·.1)) (List.mem_map.2 ⟨xs[2]'(by omega), List.getElem_mem _, rfl⟩)
    rw [hd1]
    simp only [Rows.uptoBulk]
    omega
  refine ⟨z0, c1, c2, es, rs, ?_, hE, hR, ?_, ?_⟩
  · rw [show cs = #[vI z0, c1, c2] by cases cs; simp_all]
  · obtain ⟨a, c, rfl, -⟩ := hE
    exact Nat.le_trans (slice_bulk under24 g1) b1
  · obtain ⟨a, c, rfl, -⟩ := hR
    exact Nat.le_trans (slice_bulk under22 g2) b2

/-- Numbers that came in, with their bulk. -/
theorem ints_bulk {H : Type} {enc : TypeId × Value → H} {W : World} {base : Nat} {v : Value} {d : DataW H} {ps : List MemPlace} (hv : Value.okWide Try.prog W .any base 22 v) (h : DataW.Trod enc Try.prog W 0 (fun _ => true) true 22 v d ps) :
    ∃ zs, IntsAt W.heap.size W v zs ∧ zs.length ≤ Rows.uptoBulk d := by
  obtain ⟨a, len, cap, rfl⟩ := okWide_slice under22 hv
  obtain ⟨fuel, hf⟩ := h
  have hf' : DataW.trod enc Try.prog W 0 (fun _ => true) true fuel 22 [.slice a len cap] = some (d, ps) := by simpa [Value.cells] using hf
  obtain ⟨zs, hz, -⟩ := intsAt_of hf'
  refine ⟨zs, hz, ?_⟩
  obtain ⟨a', c, e, -⟩ := hz
  have := slice_bulk under22 hf'
  cases e
  exact this

end Go.Proofs.Ytcjfmfddkhpfnaa

namespace Go.Proofs.Ytcjfmfddkhpfnaa
open Go.ChangeShapes Go.WideShapes Go.ChangeAt Go.RowKit
set_option linter.unusedVariables false
set_option linter.unusedSimpArgs false

set_option maxRecDepth 100000 in
theorem weighOrders_lifted (os : _root_.Go.Os) (started : os.Started) (H : Type) (enc : TypeId × Value → H) (F : Stop.Interp) :
    ReturnsInHanded {} Try.checked os 6 .any ((Rows.OpenSpec.upto Rows.weighOrdersSpec).pre6 enc Try.prog Try.f6 Rows.weighOrdersUptoRow.domain false) (((Rows.OpenSpec.upto Rows.weighOrdersSpec).at F).post enc Try.prog Try.f6 false true false false) := by
  refine returnsInHanded_of_cond (C := Try.checked) (s := Rows.OpenSpec.upto Rows.weighOrdersSpec) (k := Rows.uptoSmall) rfl knob started (by kernel_rfl) Try.func6
    (OpenSpec.witness (enc := enc) (C := Try.checked) (s := Rows.OpenSpec.upto Rows.weighOrdersSpec) (k := Rows.uptoSmall) rfl false ⟨#[], #[.agg #[.int .i64 0, .slice none 0 0, .slice none 0 0], .slice none 0 0, .agg #[.int .i64 0, .slice none 0 0, .slice none 0 0]], []⟩ 8 (by kernel_rfl) (by kernel_rfl) (by kernel_rfl)
      (x := ([.agg [.lit (.int .i64 0), .nil, .nil], .nil, .agg [.lit (.int .i64 0), .nil, .nil]], [], [])) (by kernel_rfl) rfl (by kernel_rfl)) ?_
  intro W base args ds gs before hval0 hW hcnd hk _
  have hval : ∀ (j : Nat) t v, Try.f6.params[j]? = some t → args[j]? = some v → Value.okWide Try.prog W .any base t v := hval0
  have hW' := hW
  obtain ⟨p, q, hA0, hV, rfl, hfz, hnd⟩ := hW
  have hA : DataW.TrodAll enc Try.prog W 0 (fun _ => true) true Try.f6.params.toList args.toList ds p := hA0
  rw [Try.params6] at hA hval
  obtain ⟨v0, vs0, d0, ds0, p0, q0, hargs, rfl, rfl, t0, r0⟩ := trodAll_cons hA
  obtain ⟨v1, vs1, d1, ds1, p1, q1, rfl, rfl, rfl, t1, r1⟩ := trodAll_cons r0
  obtain ⟨v2, vs2, d2, ds2, p2, q2, rfl, rfl, rfl, t2, r2⟩ := trodAll_cons r1
  obtain ⟨rfl, rfl, rfl⟩ := trodAll_nil r2
  obtain rfl : args = #[v0, v1, v2] := by cases args; simp_all
  obtain ⟨rfl, rfl⟩ := trodVars_none hV
  have lt0 : ∀ x ∈ p0, x.block < W.heap.size := by obtain ⟨m, hm⟩ := t0; exact DataW.trod_lt m _ _ _ hm
  have lt1 : ∀ x ∈ p1, x.block < W.heap.size := by obtain ⟨m, hm⟩ := t1; exact DataW.trod_lt m _ _ _ hm
  have lt2 : ∀ x ∈ p2, x.block < W.heap.size := by obtain ⟨m, hm⟩ := t2; exact DataW.trod_lt m _ _ _ hm
  obtain ⟨l, ev, rv, es, rs, rfl, hE, hR, hel, hrl⟩ := graph_bulk (hval 0 34 v0 rfl rfl) t0
  obtain ⟨bs, hB, hbl⟩ := ints_bulk (hval 1 22 v1 rfl rfl) t1
  obtain ⟨l2, ev2, rv2, fs, ts, rfl, hF, hT, hfl, htl⟩ := graph_bulk (hval 2 34 v2 rfl rfl) t2
  have hbk := of_decide_eq_true hk
  simp only [List.append_nil, Rows.uptoBulkAll] at hbk
  clear hA0
  refine (orders_walk l l2 ev rv v1 ev2 rv2 es rs bs fs ts W hE hR hB hF hT (by omega) (by omega) (by omega) (by omega) (by omega)).mono fun e W' ⟨he, hf⟩ => ?_
  subst he
  have bel := fr_below hf
  exact ⟨_, rfl, _, _, _, [], _, [], hW', trodAll_mk1 (shut_bool under4 _), (trodAll_cons_mk (Below.trod laysOut (by kernel_rfl) (of_decide_eq_true (by kernel_rfl)) t0 bel lt0) (trodAll_cons_mk (Below.trod laysOut (by kernel_rfl) (of_decide_eq_true (by kernel_rfl)) t1 bel lt1) (trodAll_cons_mk (Below.trod laysOut (by kernel_rfl) (of_decide_eq_true (by kernel_rfl)) t2 bel lt2) trodAll_mk0))), rfl, bel.frame _, fun h => by cases h⟩

/-- WeighOrders, up to its bulk. -/
theorem weighOrders_said : Rows.WeighOrdersUptoSaid :=
  OpenClaim.holds_of_cond 6 Try.f6 rfl rfl rfl rfl rfl rfl rfl ⟨rfl, rfl, rfl, rfl, rfl⟩ rfl rfl rfl rfl rfl (by kernel_rfl) Try.func6 (by kernel_rfl)
    (of_decide_eq_true (by kernel_rfl)) (by unfold Func.isWrapper; first | (rw [if_pos (by decide +kernel)]; kernel_rfl) | (rw [if_neg (by decide +kernel)]; exact ⟨rfl, rfl⟩))
    (fun os started H enc _ F => weighOrders_lifted os started H enc F)

end Go.Proofs.Ytcjfmfddkhpfnaa
