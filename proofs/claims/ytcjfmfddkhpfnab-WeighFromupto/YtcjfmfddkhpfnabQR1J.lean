import Derived.Test.YtcjfmfddkhpfnabQA9J
import Derived.Test.YtcjfmfddkhpfnabRows
import Derived.ProofKit
import Derived.OpenShut
import Derived.ChangeOld
import Derived.Below
import Derived.Carry
import Derived.SizedLaws
import Derived.Deep.SlicePairs
import Derived.JoinedCond
import Derived.Test.YtcjfmfddkhpfnabQFh
namespace Go.Proofs.Ytcjfmfddkhpfnab
open Go.ChangeShapes Go.WideShapes Go.ChangeAt Go.RowKit
set_option linter.unusedVariables false
set_option linter.unusedSimpArgs false

theorem knob : ownKnob Try.prog.godebug = none := by kernel_rfl
theorem laysOut : laidOutB Try.prog = true := by kernel_rfl
theorem under3 : Try.prog.underlying 3 = some (.int .i64) := by kernel_rfl
theorem under4 : Try.prog.underlying 4 = some .bool := by kernel_rfl
theorem cells3 : Try.prog.cellsOf 3 = 1 := by kernel_rfl
theorem cells27 : Try.prog.cellsOf 39 = 3 := by kernel_rfl
theorem bytes3 : Try.prog.bytesOf 3 = 8 := by kernel_rfl
theorem bytes27 : Try.prog.bytesOf 39 = 24 := by kernel_rfl
theorem reach_is : reachBytes = 140737488351232 := by decide
theorem fr_below {w w' : World} (hf : Fr (fun _ => False) w w') : Below w.heap.size w w' := ⟨hf.os, hf.tape, hf.output, hf.size, fun k hk => hf.block k hk (fun h => h)⟩

end Go.Proofs.Ytcjfmfddkhpfnab

namespace Go.Proofs.Ytcjfmfddkhpfnab
open Go.ChangeShapes Go.WideShapes Go.ChangeAt Go.RowKit
set_option linter.unusedVariables false
set_option linter.unusedSimpArgs false

theorem cell_lt {w : World} {k o : Nat} {u : Value} (h : w.cell? ⟨k, o, none⟩ = some u) : k < w.heap.size := by
  unfold World.cell? at h
  rcases Nat.lt_or_ge k w.heap.size with hk | hk
  · exact hk
  · simp [Array.getElem?_eq_none hk] at h
theorem ints_of {H : Type} {enc : TypeId × Value → H} {W : World} {n : Nat} {cs : List Value} {x : DataW H × List MemPlace} (h : DataW.trod enc Try.prog W 0 (fun _ => true) true n 3 cs = some x) : ∃ z : Int, cs = [vI z] := by
  obtain ⟨z, e, -, -⟩ := DataW.trod_int under3 h
  exact ⟨z, e⟩

/-- Numbers that came in, among cells. -/
theorem intsAt_of {H : Type} {enc : TypeId × Value → H} {W : World} {n : Nat} {c : Value} {x : DataW H × List MemPlace} (h : DataW.trod enc Try.prog W 0 (fun _ => true) true n 29 [c] = some x) :
    ∃ zs, IntsAt W.heap.size W c zs ∧ (zs = [] ∨ ∃ q ∈ x.1.weights Try.prog 29, zs.length * 8 ≤ q) := by
  rcases Deep.open_slice1 under22 cells3 h with ⟨hcs, hx⟩ | ⟨a, len, cap, m, k, V, D, Pl, hcs, -, hl, -, hmm, hx, hV⟩
  · have hcs := (List.cons.inj hcs).1
    subst hcs
    exact ⟨[], ⟨none, 0, rfl, Nat.le_refl _, fun h => absurd rfl h⟩, Or.inl rfl⟩
  · have hcs := (List.cons.inj hcs).1
    subst hcs
    have hmc : m = cap := by simpa using hmm
    subst hmc
    have hz : ∀ i, i < m → V i = vI (RowKit.intOf (V i)) := fun i hi => by
      obtain ⟨z, hz⟩ := ints_of (hV i hi).2
      have hz := (List.cons.inj hz).1
      rw [hz]
      rfl
    have hlen : ((List.range len).map fun i => RowKit.intOf (V i)).length = len := by simp
    refine ⟨(List.range len).map fun i => RowKit.intOf (V i), ⟨some a, m, by rw [hlen], by rw [hlen]; omega, fun hne => ?_⟩, ?_⟩
    · have hpos : 0 < len := by
        rcases Nat.eq_zero_or_pos len with h0 | h0
        · exfalso; apply hne; rw [h0]; rfl
        · exact h0
      obtain ⟨b, off, spot⟩ := a
      have hspot : spot = none := by
        have := World.cell?_spot (hV 0 (by omega)).1
        simpa [Addr.add] using this
      subst hspot
      have h0 := (hV 0 (by omega)).1
      rw [addr_off] at h0
      refine ⟨b, off, rfl, cell_lt h0, fun j hj => ?_⟩
      have hj' : j < len := by simpa using hj
      have h1 := (hV j (by omega)).1
      rw [addr_off, hz j (by omega)] at h1
      rw [h1]
      simp
    · refine Or.inr ⟨(len + (m - len)) * 8, ?_, by rw [hlen]; omega⟩
      rw [hx]
      simp only [DataW.weights, under22, bytes3, List.length_map, List.length_range]
      exact List.mem_cons_self

def fld (name : String) (type offset byteOffset : Nat) : Field := { name := name, type := type, offset := offset, embedded := false, tag := "", pkgPath := "", byteOffset := byteOffset }
theorem under27 : Try.prog.underlying 39 = some (.struct #[fld "Dst" 3 0 0, fld "Src" 3 1 8, fld "Derefs" 3 2 16]) := by kernel_rfl
theorem under34 : Try.prog.underlying 31 = some (.struct #[fld "Locations" 3 0 0, fld "Edges" 28 1 8, fld "Roots" 29 2 32]) := by kernel_rfl
theorem cells22 : Try.prog.cellsOf 29 = 1 := by kernel_rfl
theorem cells24 : Try.prog.cellsOf 28 = 1 := by kernel_rfl
theorem cells34 : Try.prog.cellsOf 31 = 3 := by kernel_rfl
theorem len_cons {n : Nat} : ∀ {cs : List Value}, cs.length = n + 1 → ∃ c r, cs = c :: r ∧ r.length = n
  | c :: r, h => ⟨c, r, rfl, by simpa using h⟩

/-- An edge that came in, out of its cells. -/
theorem edge_of {H : Type} {enc : TypeId × Value → H} {W : World} {n : Nat} {cs : List Value} {x : DataW H × List MemPlace} (h : DataW.trod enc Try.prog W 0 (fun _ => true) true n 39 cs = some x) : ∃ e : Ed, cs = [vI e.1, vI e.2.1, vI e.2.2] := by
  obtain ⟨xs, k, -, -, hcl, hxl, hf⟩ := DataW.trod_struct under27 h
  rw [cells27] at hcl
  have hxl : xs.length = 3 := hxl
  obtain ⟨c0, r0, rfl, hl1⟩ := len_cons hcl
  obtain ⟨c1, r1, rfl, hl2⟩ := len_cons hl1
  obtain ⟨c2, r2, rfl, hl3⟩ := len_cons hl2
  obtain rfl := List.length_eq_zero_iff.1 hl3
  have g0 := hf 0 (fld "Dst" 3 0 0) rfl
  have g1 := hf 1 (fld "Src" 3 1 8) rfl
  have g2 := hf 2 (fld "Derefs" 3 2 16) rfl
  rw [List.getElem?_eq_getElem (by omega)] at g0 g1 g2
  simp only [fld, cells3, List.drop_zero, List.drop_succ_cons, List.take_succ_cons, List.take_zero] at g0 g1 g2
  obtain ⟨z0, e0⟩ := ints_of g0
  obtain ⟨z1, e1⟩ := ints_of g1
  obtain ⟨z2, e2⟩ := ints_of g2
  have e0 := (List.cons.inj e0).1
  have e1 := (List.cons.inj e1).1
  have e2 := (List.cons.inj e2).1
  exact ⟨(z0, z1, z2), by rw [e0, e1, e2]⟩

/-- Edges that came in, among cells. -/
theorem edgesAt_of {H : Type} {enc : TypeId × Value → H} {W : World} {n : Nat} {c : Value} {x : DataW H × List MemPlace} (h : DataW.trod enc Try.prog W 0 (fun _ => true) true n 28 [c] = some x) :
    ∃ es, EdgesAt W.heap.size W c es ∧ (es = [] ∨ ∃ q ∈ x.1.weights Try.prog 28, es.length * 24 ≤ q) := by
  rcases Deep.open_slice under24 h with ⟨hcs, hx⟩ | ⟨a, len, cap, m, k, D, Pl, hcs, _, hl, hm, hmm, hx, hc⟩
  · have hcs := (List.cons.inj hcs).1
    subst hcs
    exact ⟨[], ⟨none, 0, rfl, Nat.le_refl _, fun h => absurd rfl h⟩, Or.inl rfl⟩
  · have hcs := (List.cons.inj hcs).1
    subst hcs
    have hmc : m = cap := by simpa using hmm
    subst hmc
    have hv : ∀ i, ∃ e : Ed, i < len → W.cell? ((a.add (i * 3)).add 0) = some (vI e.1) ∧ W.cell? ((a.add (i * 3)).add 1) = some (vI e.2.1) ∧ W.cell? ((a.add (i * 3)).add 2) = some (vI e.2.2) := by
      intro i
      by_cases hi : i < len
      · obtain ⟨cs', r0, r1⟩ := hc i (by omega)
        rw [cells27] at r0
        obtain ⟨-, -, hcell⟩ := World.cells?_some r0
        obtain ⟨e, rfl⟩ := edge_of r1
        exact ⟨e, fun _ => ⟨by rw [hcell 0 (by omega)]; rfl, by rw [hcell 1 (by omega)]; rfl, by rw [hcell 2 (by omega)]; rfl⟩⟩
      · exact ⟨(0, 0, 0), fun h => absurd h hi⟩
    obtain ⟨Q, hQ⟩ : ∃ Q : Nat → Ed, ∀ i, i < len → W.cell? ((a.add (i * 3)).add 0) = some (vI (Q i).1) ∧ W.cell? ((a.add (i * 3)).add 1) = some (vI (Q i).2.1) ∧ W.cell? ((a.add (i * 3)).add 2) = some (vI (Q i).2.2) :=
      ⟨fun i => (hv i).choose, fun i => (hv i).choose_spec⟩
    have hlen : ((List.range len).map Q).length = len := by simp
    refine ⟨(List.range len).map Q, ⟨some a, m, by rw [hlen], by rw [hlen]; omega, fun hne => ?_⟩, ?_⟩
    · have hpos : 0 < len := by
        rcases Nat.eq_zero_or_pos len with h0 | h0
        · exfalso; apply hne; rw [h0]; rfl
        · exact h0
      obtain ⟨b, off, spot⟩ := a
      have hspot : spot = none := by
        have := World.cell?_spot (hQ 0 hpos).1
        simpa [Addr.add] using this
      subst hspot
      simp only [addr_off] at hQ
      refine ⟨b, off, rfl, cell_lt (hQ 0 hpos).1, fun i hi => ?_⟩
      have hi' : i < len := by simpa using hi
      simpa using hQ i hi'
    · refine Or.inr ⟨(len + (m - len)) * 24, ?_, by rw [hlen]; omega⟩
      rw [hx]
      simp only [DataW.weights, under24, bytes27, List.length_map, List.length_range]
      exact List.mem_cons_self

/-- A graph that came in. -/
theorem graph_of {H : Type} {enc : TypeId × Value → H} {W : World} {n : Nat} {cs : List Value} {x : DataW H × List MemPlace} (h : DataW.trod enc Try.prog W 0 (fun _ => true) true n 31 cs = some x) :
    ∃ (l : Int) (ev rv : Value) (es : List Ed) (rs : List Int), cs = [vI l, ev, rv] ∧ EdgesAt W.heap.size W ev es ∧ IntsAt W.heap.size W rv rs ∧ (es = [] ∨ ∃ q ∈ x.1.weights Try.prog 31, es.length * 24 ≤ q) ∧ (rs = [] ∨ ∃ q ∈ x.1.weights Try.prog 31, rs.length * 8 ≤ q) := by
  obtain ⟨xs, k, -, rfl, hcl, hxl, hf⟩ := DataW.trod_struct under34 h
  rw [cells34] at hcl
  have hxl : xs.length = 3 := hxl
  obtain ⟨c0, r0, rfl, hl1⟩ := len_cons hcl
  obtain ⟨c1, r1, rfl, hl2⟩ := len_cons hl1
  obtain ⟨c2, r2, rfl, hl3⟩ := len_cons hl2
  obtain rfl := List.length_eq_zero_iff.1 hl3
  have g0 := hf 0 (fld "Locations" 3 0 0) rfl
  have g1 := hf 1 (fld "Edges" 28 1 8) rfl
  have g2 := hf 2 (fld "Roots" 29 2 32) rfl
  have e0 : xs[0]? = some (xs[0]'(by omega)) := List.getElem?_eq_getElem (by omega)
  have e1 : xs[1]? = some (xs[1]'(by omega)) := List.getElem?_eq_getElem (by omega)
  have e2 : xs[2]? = some (xs[2]'(by omega)) := List.getElem?_eq_getElem (by omega)
  rw [e0] at g0
  rw [e1] at g1
  rw [e2] at g2
  simp only [fld, cells3, cells22, cells24, List.drop_zero, List.drop_succ_cons, List.take_succ_cons, List.take_zero] at g0 g1 g2
  obtain ⟨z0, f0⟩ := ints_of g0
  obtain ⟨es, hE, hEw⟩ := edgesAt_of g1
  obtain ⟨rs, hR, hRw⟩ := intsAt_of g2
  have f0 := (List.cons.inj f0).1
  subst f0
  refine ⟨z0, c1, c2, es, rs, rfl, hE, hR, ?_, ?_⟩
  · rcases hEw with hw | ⟨q, hq, hle⟩
    · exact Or.inl hw
    · refine Or.inr ⟨q, ?_, hle⟩
      simp only [DataW.weights, under34]
      exact DataW.weights_mem_each (j := 1) (t := 28) (d := (xs[1]'(by omega)).1) rfl (by rw [List.getElem?_map, e1]; rfl) q hq
  · rcases hRw with hw | ⟨q, hq, hle⟩
    · exact Or.inl hw
    · refine Or.inr ⟨q, ?_, hle⟩
      simp only [DataW.weights, under34]
      exact DataW.weights_mem_each (j := 2) (t := 29) (d := (xs[2]'(by omega)).1) rfl (by rw [List.getElem?_map, e2]; rfl) q hq

end Go.Proofs.Ytcjfmfddkhpfnab

namespace Go.Proofs.Ytcjfmfddkhpfnab
open Go.ChangeShapes Go.WideShapes Go.ChangeAt Go.RowKit
set_option linter.unusedVariables false
set_option linter.unusedSimpArgs false

theorem bulk_pos {H : Type} (d : DataW H) : 1 ≤ Rows.uptoBulk d := by
  cases d with
  | lit l => cases l <;> simp [Rows.uptoBulk]
  | _ => simp [Rows.uptoBulk]

theorem bulk_len {H : Type} : ∀ (l : List (DataW H)), l.length ≤ Rows.uptoBulkAll l
  | [] => by simp
  | d :: r => by
    have h1 := bulk_pos d
    have h2 := bulk_len r
    simp only [Rows.uptoBulkAll, List.length_cons]
    omega
theorem bulk_mem {H : Type} : ∀ {l : List (DataW H)} {d : DataW H}, d ∈ l → Rows.uptoBulk d ≤ Rows.uptoBulkAll l
  | a :: r, d, h => by
    simp only [Rows.uptoBulkAll]
    rcases List.mem_cons.1 h with rfl | h
    · omega
    · have := bulk_mem h; omega

/-- How long a slice is that came in. -/
theorem slice_bulk {H : Type} {enc : TypeId × Value → H} {W : World} {n t e : Nat} {a : Option Addr} {len cap : Nat} {x : DataW H × List MemPlace} (ht : Try.prog.underlying t = some (.slice e)) (h : DataW.trod enc Try.prog W 0 (fun _ => true) true n t [.slice a len cap] = some x) : len ≤ Rows.uptoBulk x.1 := by
  rcases Deep.open_slice ht h with ⟨hcs, hx⟩ | ⟨a', len', cap', m, k, D, Pl, hcs, _, hl, hm, hmm, hx, hc⟩
  · simp at hcs
    omega
  · simp at hcs
    obtain ⟨rfl, rfl, rfl⟩ := hcs
    have h1 := bulk_len ((List.range len).map D)
    rw [hx]
    simp only [Rows.uptoBulk]
    simp only [List.length_map, List.length_range] at h1
    omega

/-- A graph that came in, out of its cells, with its bulk. -/
theorem graph_bulk {H : Type} {enc : TypeId × Value → H} {W : World} {n : Nat} {cs : List Value} {x : DataW H × List MemPlace} (h : DataW.trod enc Try.prog W 0 (fun _ => true) true n 31 cs = some x) :
    ∃ (l : Int) (ev rv : Value) (es : List Ed) (rs : List Int), cs = [vI l, ev, rv] ∧ EdgesAt W.heap.size W ev es ∧ IntsAt W.heap.size W rv rs ∧ es.length ≤ Rows.uptoBulk x.1 ∧ rs.length ≤ Rows.uptoBulk x.1 := by
  obtain ⟨xs, k, -, rfl, hcl, hxl, hf⟩ := DataW.trod_struct under34 h
  rw [cells34] at hcl
  have hxl : xs.length = 3 := hxl
  obtain ⟨c0, r0, rfl, hl1⟩ := len_cons hcl
  obtain ⟨c1, r1, rfl, hl2⟩ := len_cons hl1
  obtain ⟨c2, r2, rfl, hl3⟩ := len_cons hl2
  obtain rfl := List.length_eq_zero_iff.1 hl3
  have g0 := hf 0 (fld "Locations" 3 0 0) rfl
  have g1 := hf 1 (fld "Edges" 28 1 8) rfl
  have g2 := hf 2 (fld "Roots" 29 2 32) rfl
  have e0 : xs[0]? = some (xs[0]'(by omega)) := List.getElem?_eq_getElem (by omega)
  have e1 : xs[1]? = some (xs[1]'(by omega)) := List.getElem?_eq_getElem (by omega)
  have e2 : xs[2]? = some (xs[2]'(by omega)) := List.getElem?_eq_getElem (by omega)
  rw [e0] at g0
  rw [e1] at g1
  rw [e2] at g2
  simp only [fld, cells3, cells22, cells24, List.drop_zero, List.drop_succ_cons, List.take_succ_cons, List.take_zero] at g0 g1 g2
  obtain ⟨z0, f0⟩ := ints_of g0
  obtain ⟨es, hE, -⟩ := edgesAt_of g1
  obtain ⟨rs, hR, -⟩ := intsAt_of g2
  have f0 := (List.cons.inj f0).1
  subst f0
  have b1 : Rows.uptoBulk (xs[1]'(by omega)).1 ≤ Rows.uptoBulk (DataW.agg (xs.map (·.1))) := by
    have := bulk_mem (l := xs.map (·.1)) (List.mem_map.2 ⟨xs[1]'(by omega), List.getElem_mem _, rfl⟩)
    simp only [Rows.uptoBulk]
    omega
  have b2 : Rows.uptoBulk (xs[2]'(by omega)).1 ≤ Rows.uptoBulk (DataW.agg (xs.map (·.1))) := by
    have := bulk_mem (l := xs.map (·.1)) (List.mem_map.2 ⟨xs[2]'(by omega), List.getElem_mem _, rfl⟩)
    simp only [Rows.uptoBulk]
    omega
  refine ⟨z0, c1, c2, es, rs, rfl, hE, hR, ?_, ?_⟩
  · obtain ⟨a, c, rfl, -⟩ := hE
    exact Nat.le_trans (slice_bulk under24 g1) b1
  · obtain ⟨a, c, rfl, -⟩ := hR
    exact Nat.le_trans (slice_bulk under22 g2) b2

abbrev Gi := Int × Value × Value
/-- Graphs as they lie in a list. -/
def GraphsIn (W : World) (v : Value) (gs : List Gi) : Prop :=
  ∃ a c, v = .slice a gs.length c ∧ gs.length ≤ c ∧ (gs ≠ [] → ∃ k o, a = some ⟨k, o, none⟩ ∧ k < W.heap.size ∧ ∀ i (h : i < gs.length),
    W.cell? ⟨k, o + i * 3, none⟩ = some (vI gs[i].1) ∧ W.cell? ⟨k, o + i * 3 + 1, none⟩ = some gs[i].2.1 ∧ W.cell? ⟨k, o + i * 3 + 2, none⟩ = some gs[i].2.2)

theorem under22G : Try.prog.underlying 22 = some (.slice 31) := by kernel_rfl
/-- Graphs that came in. -/
theorem graphs_of {H : Type} {enc : TypeId × Value → H} {W : World} {a : Option Addr} {len cap : Nat} {d : DataW H} {ps : List MemPlace} (h : DataW.Trod enc Try.prog W 0 (fun _ => true) true 22 (.slice a len cap) d ps) (hsz : Rows.uptoBulk d ≤ 1048576) :
    ∃ (gs : List Gi) (ess : Nat → List Ed) (rss : Nat → List Int), GraphsIn W (.slice a len cap) gs ∧ (∀ i (hi : i < gs.length), EdgesAt W.heap.size W gs[i].2.1 (ess i) ∧ IntsAt W.heap.size W gs[i].2.2 (rss i) ∧ (ess i).length ≤ 1048576 ∧ (rss i).length ≤ 1048576) ∧ gs.length ≤ 1048576 := by
  obtain ⟨fuel, hf⟩ := h
  rcases Deep.open_slice under22G hf with ⟨hcs, hx⟩ | ⟨x, l, c, m, n, D, Pl, hcs, _, hl, hm, hmm, hx, hc⟩
  · simp [Value.cells] at hcs
    obtain ⟨rfl, rfl, rfl⟩ := hcs
    exact ⟨[], fun _ => [], fun _ => [], ⟨none, 0, rfl, Nat.le_refl _, fun h => absurd rfl h⟩, fun i h => absurd h (by simp), by simp⟩
  · simp [Value.cells] at hcs
    obtain ⟨rfl, rfl, rfl⟩ := hcs
    have hmc : m = cap := by simpa using hmm
    subst hmc
    have hd := congrArg Prod.fst hx
    simp only at hd
    subst hd
    simp only [Rows.uptoBulk] at hsz
    have hv : ∀ i, ∃ q : Gi × List Ed × List Int, i < len → (W.cell? ((x.add (i * 3)).add 0) = some (vI q.1.1) ∧ W.cell? ((x.add (i * 3)).add 1) = some q.1.2.1 ∧ W.cell? ((x.add (i * 3)).add 2) = some q.1.2.2) ∧ EdgesAt W.heap.size W q.1.2.1 q.2.1 ∧ IntsAt W.heap.size W q.1.2.2 q.2.2 ∧ q.2.1.length ≤ 1048576 ∧ q.2.2.length ≤ 1048576 := by
      intro i
      by_cases hi : i < len
      · obtain ⟨cs', r0, r1⟩ := hc i (by omega)
        rw [cells34] at r0
        obtain ⟨-, -, hcell⟩ := World.cells?_some r0
        obtain ⟨l, ev, rv, es, rs, rfl, hE, hR, h3, h4⟩ := graph_bulk r1
        have hb : Rows.uptoBulk (D i) ≤ Rows.uptoBulkAll ((List.range len).map D) := bulk_mem (List.mem_map.2 ⟨i, List.mem_range.2 hi, rfl⟩)
        simp only at h3 h4
        exact ⟨((l, ev, rv), es, rs), fun _ => ⟨⟨by rw [hcell 0 (by omega)]; rfl, by rw [hcell 1 (by omega)]; rfl, by rw [hcell 2 (by omega)]; rfl⟩, hE, hR, by simp only; omega, by simp only; omega⟩⟩
      · exact ⟨((0, .slice none 0 0, .slice none 0 0), [], []), fun h => absurd h hi⟩
    obtain ⟨Q, hQ⟩ : ∃ Q : Nat → Gi × List Ed × List Int, ∀ i, i < len → (W.cell? ((x.add (i * 3)).add 0) = some (vI (Q i).1.1) ∧ W.cell? ((x.add (i * 3)).add 1) = some (Q i).1.2.1 ∧ W.cell? ((x.add (i * 3)).add 2) = some (Q i).1.2.2) ∧ EdgesAt W.heap.size W (Q i).1.2.1 (Q i).2.1 ∧ IntsAt W.heap.size W (Q i).1.2.2 (Q i).2.2 ∧ (Q i).2.1.length ≤ 1048576 ∧ (Q i).2.2.length ≤ 1048576 :=
      ⟨fun i => (hv i).choose, fun i => (hv i).choose_spec⟩
    have hlen : ((List.range len).map fun i => (Q i).1).length = len := by simp
    refine ⟨(List.range len).map fun i => (Q i).1, fun i => (Q i).2.1, fun i => (Q i).2.2, ⟨some x, m, by rw [hlen], by omega, fun hne => ?_⟩, fun i hi => ?_, ?_⟩
    · obtain ⟨b, off, spot⟩ := x
      have hpos : 0 < len := by
        rcases Nat.eq_zero_or_pos len with h0 | h0
        · exfalso; apply hne; rw [h0]; rfl
        · exact h0
      have hspot : spot = none := by
        have := World.cell?_spot (hQ 0 hpos).1.1
        simpa [Addr.add] using this
      subst hspot
      simp only [addr_off] at hQ
      refine ⟨b, off, rfl, cell_lt (hQ 0 hpos).1.1, fun i hi => ?_⟩
      have hi' : i < len := by simpa using hi
      simpa using (hQ i hi').1
    · have hi' : i < len := by simpa using hi
      simpa using (hQ i hi').2
    · rw [hlen]
      have h1 := bulk_len ((List.range len).map D)
      simp only [List.length_map, List.length_range] at h1
      omega

end Go.Proofs.Ytcjfmfddkhpfnab

namespace Go.Proofs.Ytcjfmfddkhpfnab
open Go.RowKit (wrap32 wrap64)
set_option linter.unusedVariables false
set_option linter.unusedSimpArgs false

theorem Ls.lists {w : World} {B : Nat} {v : Value} {us : List (Value × List Int)} (h : Ls w B v us) : ListsAt w v (us.map (·.2)) := by
  obtain ⟨⟨h0, h1⟩, h3⟩ := h
  rcases h1 with ⟨e, hn⟩ | ⟨g, cap, cur, e, k1, k2, k3, k4, k5, k6⟩
  · have := List.length_eq_zero_iff.1 hn
    subst this
    exact ⟨none, 0, e, fun h => absurd rfl h⟩
  · refine ⟨_, _, by rw [List.length_map]; exact e, fun _ => ⟨g, 0, rfl, fun j hj => ?_⟩⟩
    have hju : j < us.length := by simpa using hj
    have q2 := h3 us[j] (List.getElem_mem hju)
    refine ⟨us[j].1, ?_, ?_⟩
    · rw [Nat.zero_add, cell_of k2]
      have e1 : (cur.toList.take (us.length * 1))[j]? = cur.toList[j]? := by rw [List.getElem?_take]; simp [hju]
      rw [← Array.getElem?_toList, ← e1, k6]
      simp [hju]
    · have e2 : (us.map (·.2))[j]?.getD [] = us[j].2 := by simp [hju]
      rw [e2]
      exact OwnI.at (B := B) q2

theorem St.begin (w w1 : World) (f : Fr (fun _ => False) w w1) : St w w1.heap.size 0 0 (fun k => k < (w1.alloc (.cells #[.slice none 0 0, .slice none 0 0, vI 0] 27)).heap.size) (w1.alloc (.cells #[.slice none 0 0, .slice none 0 0, vI 0] 27)) :=
  ⟨.slice none 0 0, .slice none 0 0, [], [], ⟨heap_alloc_last w1 _, f.size, ⟨World.ownsRow_nil _ _ _ _, fun p hp => by simp at hp⟩, ⟨World.ownsRow_nil _ _ _ _, fun p hp => by simp at hp⟩, (fun k e => by cases e), (fun k hk => by
    rcases hk with (e | ⟨p, hp, -⟩) | (e | ⟨p, hp, -⟩)
    · cases e
    · simp at hp
    · cases e
    · simp at hp), f.alloc _⟩, rfl, Nat.le_refl _, fun p hp => by simp at hp, fun k hk => by
    rcases hk with rfl | (e | ⟨p, hp, -⟩) | (e | ⟨p, hp, -⟩)
    · simp
    · cases e
    · simp at hp
    · cases e
    · simp at hp⟩
/-- Another sum. -/
theorem St.sum {w0 w : World} {wb N : Nat} {sm : Int} {P : Nat → Prop} (h : St w0 wb N sm P w) (q : Int) : St w0 wb N q P (w.setCell ⟨wb, 2, none⟩ (vI q)) := by
  obtain ⟨lv, mv, us, us', h1, h2⟩ := h
  have f := setCell_fr w wb 2 (vI q)
  refine ⟨lv, mv, us, us', ⟨set_of h1.blk 2 (vI q), h1.base, h1.ll.fr f (fun k hk e => h1.wl k (Or.inl hk) e), h1.lm.fr f (fun k hk e => h1.wl k (Or.inr hk) e), h1.part, h1.wl, h1.fr.then f (fun j hj e => by have := h1.base; omega)⟩, h2⟩

theorem drewN_fr (w : World) (n : Nat) : Fr (fun _ => False) w (w.drewN n) := ⟨rfl, rfl, rfl, Nat.le_refl _, fun _ _ _ => rfl⟩

set_option maxRecDepth 100000 in
set_option maxHeartbeats 8000000 in
theorem weighFrom_walk (v : Value) (gs : List Gi) (ess : Nat → List Ed) (rss : Nat → List Int) (w : World) (hG : GraphsIn w v gs) (hL : ∀ i (hi : i < gs.length), EdgesAt w.heap.size w gs[i].2.1 (ess i) ∧ IntsAt w.heap.size w gs[i].2.2 (rss i) ∧ (ess i).length ≤ 1048576 ∧ (rss i).length ≤ 1048576) (hg : gs.length ≤ 1048576) :
    Calls Try.prog 3 #[v] w fun e w' => e = .returned (.bool true) ∧ Fr (fun _ => False) w w' := by
  obtain ⟨ga, gc, rfl, hgc, hG⟩ := hG
  have HG : Hd _ := hG
  have HL : Hd _ := hL
  clear hG hL
  go_enter Try.func3, Try.ntmps3
  go_wp2_with fail
  refine (show Calls Try.prog 4 #[] w _ from fixed_any w).mono ?_
  rintro e w1 ⟨rfl, hF1⟩
  have HF1 : Hd (Fr (fun _ => False) w w1) := hF1
  clear hF1
  go_wp2_with fail
  refine (show Calls Try.prog 5 #[] w1 _ from booked_any w1).mono ?_
  rintro e w2 ⟨rfl, hF2⟩
  have HF2 : Hd (Fr (fun _ => False) w w2) := HF1.out.trans hF2
  have HS2 : Hd (St w w2.heap.size 0 0 (fun k => k < (w2.alloc (.cells #[.slice none 0 0, .slice none 0 0, vI 0] 27)).heap.size) (w2.alloc (.cells #[.slice none 0 0, .slice none 0 0, vI 0] 27))) := St.begin w w2 HF2.out
  clear hF2 HF1 HF2
  go_wp2_with fail
  obtain ⟨wb, hwb⟩ : ∃ wb, wb = w2.heap.size := ⟨_, rfl⟩
  rw [← hwb] at HS2 ⊢
  clear hwb
  go_loopw [3, 5] (fun okv v wr => ∃ (k : Nat) (sm : Int), okv = .bool true ∧ v = .int .i64 k ∧ k ≤ gs.length ∧ 0 ≤ sm ∧ sm ≤ 1048576 ∧ Hd (St w wb (12 * k) sm (fun j => j < wr.heap.size) wr)) (fun _ v _ => match v with | .int _ q => gs.length - q.toNat | _ => 0)
  case atStart => exact ⟨0, 0, rfl, rfl, Nat.zero_le _, Int.le_refl _, by omega, HS2.out⟩
  case round =>
    clear HS2
    obtain ⟨k, sm, rfl, rfl, hk, hs0, hs1, HS⟩ := hrel
    by_cases hlt : k < gs.length
    · obtain ⟨gk, go, rfl, hgk, hg3⟩ := HG.out (by intro e; simp [e] at hlt)
      obtain ⟨c0, c1, c2⟩ := hg3 k hlt
      obtain ⟨hE, hR, hel, hrl⟩ := HL.out k hlt
      generalize gs[k] = q at *
      obtain ⟨l, ev, rv⟩ := q
      simp only at hE hR c0 c1 c2
      obtain ⟨n, hen⟩ : ∃ n, (ess k).length = n := ⟨_, rfl⟩
      obtain ⟨m, hrm⟩ : ∃ m, (rss k).length = m := ⟨_, rfl⟩
      obtain ⟨ea, ecap, hev, -⟩ := id hE
      obtain ⟨ra, rcap, hrv, -⟩ := id hR
      rw [hen] at hev hel
      rw [hrm] at hrv hrl
      subst hev
      subst hrv
      have HE : Hd (EdgesAt w.heap.size w (.slice ea n ecap) (ess k)) := hE
      have HR : Hd (IntsAt w.heap.size w (.slice ra m rcap) (rss k)) := hR
      have HEN : Hd ((ess k).length = n) := hen
      have HRN : Hd ((rss k).length = m) := hrm
      have fw := HS.out.old
      have p0 := (fw.cell (o := go + k * 3) hgk (fun e => e)).trans c0
      have p1 := (fw.cell (o := go + k * 3 + 1) hgk (fun e => e)).trans c1
      have p2 := (fw.cell (o := go + k * 3 + 2) hgk (fun e => e)).trans c2
      have hk0 : (0 : Int) ≤ k := by omega
      have hk1 : (k : Int) < gs.length := by omega
      clear hE hR hg3 c0 c1 c2 fw hen hrm
      have hFg : Fr (fun _ => False) wr (wr.alloc (.cells #[vI l, .slice ea n ecap, .slice ra m rcap] 31)) := (Fr.refl _ wr).alloc _
      have HGB : Hd ((wr.alloc (.cells #[vI l, .slice ea n ecap, .slice ra m rcap] 31)).heap[wr.heap.size]? = some (.cells #[vI l, .slice ea n ecap, .slice ra m rcap] 31)) := heap_alloc_last wr _
      have HSg : Hd (St w wb (12 * k) sm (fun j => j < wr.heap.size) (wr.alloc (.cells #[vI l, .slice ea n ecap, .slice ra m rcap] 31))) := HS.out.keep hFg
      clear hFg HS
      go_upto_region 7 with fail
      obtain ⟨gb, hgb⟩ : ∃ gb, gb = wr.heap.size := ⟨_, rfl⟩
      have hwb : wb < wr.heap.size := by obtain ⟨lv, mv, -, -, h⟩ := HSg.out.has; exact h
      rw [← hgb] at HGB HSg hwb ⊢
      generalize wr.alloc (.cells #[vI l, .slice ea n ecap, .slice ra m rcap] 31) = wa at *
      clear hgb p0 p1 p2
      have q0 : wa.cell? ⟨gb, 0, none⟩ = some (vI l) := by rw [cell_of HGB.out]; rfl
      have q1 : wa.cell? ⟨gb, 1, none⟩ = some (.slice ea n ecap) := by rw [cell_of HGB.out]; rfl
      have q2 : wa.cell? ⟨gb, 2, none⟩ = some (.slice ra m rcap) := by rw [cell_of HGB.out]; rfl
      obtain ⟨lv, mv, hbl, -, -⟩ := HSg.out.has
      have s2 : wa.cell? ⟨wb, 2, none⟩ = some (vI sm) := by rw [cell_of hbl]; rfl
      have z2 := frozen_of hbl 2
      clear hbl
      have HLT : Hd (wb < gb) := hwb
      clear hwb
      have HSx : Hd (St w wb (12 * k) sm (fun j => j < gb) wa) := HSg.out
      clear HSg
      by_cases hl0 : l > 0
      · have d0 : decide (l > 0) = true := by simpa using hl0
        by_cases hl1 : l ≤ 1048576
        · have d1 : decide (l ≤ 1048576) = true := by simpa using hl1
          have hw : wrap64 (sm + l) = sm + l := by unfold wrap64; omega
          by_cases hsl : sm + l > 1048576
          · have d2 : decide (sm + l > 1048576) = true := by simpa using hsl
            go_wp2_with fail
            go_quiet (fail)
            go_wp2_with fail
            exact ⟨⟨k + 1, sm, rfl, by simp, by omega, hs0, hs1, (HSx.out.keep (drewN_fr wa nq)).top.mono (by omega) (fun _ _ _ e => e)⟩, by simp; omega⟩
          · have d2 : decide (sm + l > 1048576) = false := by simpa using hsl
            go_wp2_with fail
            go_quiet (fail)
            go_wp2_with fail
            have u0 : (wa.drewN nq).cell? ⟨gb, 0, none⟩ = some (vI l) := q0
            have u2 : (wa.drewN nq).cell? ⟨wb, 2, none⟩ = some (vI sm) := s2
            have v2 : (wa.drewN nq).frozen? ⟨wb, 2, none⟩ = false := z2
            have HGd : Hd ((wa.drewN nq).heap[gb]? = some (.cells #[vI l, .slice ea n ecap, .slice ra m rcap] 31)) := HGB.out
            have HSd : Hd (St w wb (12 * k) sm (fun j => j < gb) (wa.drewN nq)) := HSx.out.keep (drewN_fr wa nq)
            clear HSx HGB q0 q1 q2 s2 z2
            generalize wa.drewN nq = wd at *
            have HGe : Hd ((wd.setCell ⟨wb, 2, none⟩ (vI (sm + l))).drew.heap[gb]? = some (.cells #[vI l, .slice ea n ecap, .slice ra m rcap] 31)) := ((setCell_fr wd wb 2 (vI (sm + l))).block gb (heap_lt HGd.out) (fun e => by have := HLT.out; omega)).trans HGd.out
            have HSe : Hd (St w wb (12 * k) (sm + l) (fun j => j < gb) (wd.setCell ⟨wb, 2, none⟩ (vI (sm + l))).drew) := (HSd.out.sum (sm + l)).keep (Fr.refl _ _).drew
            clear HGd HSd
            refine wp_region_still_tail 8 mixed (by kernel_rfl) ?_
            simp only [List.take_succ_cons, List.take_zero, List.drop_succ_cons, List.drop_zero]
            repeat still_step
            refine wpStill_nil ?_
            have v3 : wd.drew.cell? ⟨wb, 2, none⟩ = some (vI sm) := u2
            have v4 : wd.drew.frozen? ⟨wb, 2, none⟩ = false := v2
            go_upto_region 10 with fail
            generalize (wd.setCell ⟨wb, 2, none⟩ (vI (sm + l))).drew = we at *
            have q0 : we.cell? ⟨gb, 0, none⟩ = some (vI l) := by rw [cell_of HGe.out]; rfl
            have q1 : we.cell? ⟨gb, 1, none⟩ = some (.slice ea n ecap) := by rw [cell_of HGe.out]; rfl
            have q2 : we.cell? ⟨gb, 2, none⟩ = some (.slice ra m rcap) := by rw [cell_of HGe.out]; rfl
            go_wp2_with fail
            refine (show Calls Try.prog 6 #[.pointer (some ⟨wb, 0, none⟩), .agg #[vI l, .slice ea n ecap, .slice ra m rcap]] we _ from asks_any HSe.out (by omega) l _ _ (ess k) (rss k) (HE.out.stay HSe.out.old) (HR.out.stay HSe.out.old) n m HEN.out HRN.out hel hrl).mono ?_
            rintro e w3 ⟨rfl, hS3⟩
            obtain ⟨lv, mv, us, us', hsh, hsame, hul, hup, -⟩ := id hS3
            have HS3 : Hd (St w wb (12 * k + 12) (sm + l) (fun j => j < w3.heap.size) w3) := hS3
            have h1 := hsh.ll.lists
            have h2 := hsh.lm.lists
            rw [← hsame] at h2
            obtain ⟨zss, hzs⟩ : ∃ zss, zss = us.map (·.2) := ⟨_, rfl⟩
            rw [← hzs] at h1 h2
            obtain ⟨la, lc, hlv, -, -⟩ := row_shape hsh.ll.row
            obtain ⟨ma, mc, hmv, -, -⟩ := row_shape hsh.lm.row
            subst hlv
            subst hmv
            obtain ⟨r0, r1, -⟩ := hsh.heads
            have H1 : Hd (ListsAt w3 (.slice la us.length lc) zss) := h1
            have H2 : Hd (ListsAt w3 (.slice ma us'.length mc) zss) := h2
            have HUL : Hd (zss.length ≤ 10000000000000) := by unfold Hd; rw [hzs, List.length_map]; omega
            have HUP : Hd (∀ zs ∈ zss, zs.length ≤ 10000000000000) := fun zs hz => by
              rw [hzs] at hz
              obtain ⟨p, hp, rfl⟩ := List.mem_map.1 hz
              have := hup p hp
              omega
            clear hS3 hsh hsame hul hup h1 h2 hzs
            go_wp2_with fail
            refine wp_region_still_tail 8 mixed (by kernel_rfl) ?_
            simp only [List.take_succ_cons, List.take_zero, List.drop_succ_cons, List.drop_zero]
            repeat still_step
            refine wpStill_nil ?_
            go_wp2_with fail
            refine (show Calls Try.prog 7 #[.slice la us.length lc, .slice ma us'.length mc] w3.drew _ from eqLists_same _ _ zss w3.drew H1.out H2.out HUL.out HUP.out).mono ?_
            rintro e w4 ⟨rfl, hF4⟩
            have HS4 : Hd (St w wb (12 * (k + 1)) (sm + l) (fun j => j < w4.heap.size) w4) := (HS3.out.keep ((Fr.refl _ w3).drew.trans hF4)).top.mono (by omega) (fun _ _ _ e => e)
            clear hF4 HS3 H1 H2 HUL HUP
            go_wp2_with fail
            exact ⟨⟨k + 1, sm + l, rfl, by simp, by omega, by omega, by omega, HS4.out⟩, by simp; omega⟩
        · have d1 : decide (l ≤ 1048576) = false := by simpa using hl1
          go_wp2_with fail
          refine (show Calls Try.prog 6 #[.pointer (some ⟨wb, 0, none⟩), .agg #[vI l, .slice ea n ecap, .slice ra m rcap]] wa _ from asks_any HSx.out (by omega) l _ _ (ess k) (rss k) (HE.out.stay HSx.out.old) (HR.out.stay HSx.out.old) n m HEN.out HRN.out hel hrl).mono ?_
          rintro e w3 ⟨rfl, hS3⟩
          obtain ⟨lv, mv, us, us', hsh, hsame, hul, hup, -⟩ := id hS3
          have HS3 : Hd (St w wb (12 * k + 12) sm (fun j => j < w3.heap.size) w3) := hS3
          have h1 := hsh.ll.lists
          have h2 := hsh.lm.lists
          rw [← hsame] at h2
          obtain ⟨zss, hzs⟩ : ∃ zss, zss = us.map (·.2) := ⟨_, rfl⟩
          rw [← hzs] at h1 h2
          obtain ⟨la, lc, hlv, -, -⟩ := row_shape hsh.ll.row
          obtain ⟨ma, mc, hmv, -, -⟩ := row_shape hsh.lm.row
          subst hlv
          subst hmv
          obtain ⟨r0, r1, -⟩ := hsh.heads
          have H1 : Hd (ListsAt w3 (.slice la us.length lc) zss) := h1
          have H2 : Hd (ListsAt w3 (.slice ma us'.length mc) zss) := h2
          have HUL : Hd (zss.length ≤ 10000000000000) := by unfold Hd; rw [hzs, List.length_map]; omega
          have HUP : Hd (∀ zs ∈ zss, zs.length ≤ 10000000000000) := fun zs hz => by
            rw [hzs] at hz
            obtain ⟨p, hp, rfl⟩ := List.mem_map.1 hz
            have := hup p hp
            omega
          clear hS3 hsh hsame hul hup h1 h2 hzs
          go_wp2_with fail
          refine wp_region_still_tail 8 mixed (by kernel_rfl) ?_
          simp only [List.take_succ_cons, List.take_zero, List.drop_succ_cons, List.drop_zero]
          repeat still_step
          refine wpStill_nil ?_
          go_wp2_with fail
          refine (show Calls Try.prog 7 #[.slice la us.length lc, .slice ma us'.length mc] w3.drew _ from eqLists_same _ _ zss w3.drew H1.out H2.out HUL.out HUP.out).mono ?_
          rintro e w4 ⟨rfl, hF4⟩
          have HS4 : Hd (St w wb (12 * (k + 1)) sm (fun j => j < w4.heap.size) w4) := (HS3.out.keep ((Fr.refl _ w3).drew.trans hF4)).top.mono (by omega) (fun _ _ _ e => e)
          clear hF4 HS3 H1 H2 HUL HUP
          go_wp2_with fail
          exact ⟨⟨k + 1, sm, rfl, by simp, by omega, by omega, by omega, HS4.out⟩, by simp; omega⟩
      · have d0 : decide (l > 0) = false := by simpa using hl0
        go_wp2_with fail
        refine (show Calls Try.prog 6 #[.pointer (some ⟨wb, 0, none⟩), .agg #[vI l, .slice ea n ecap, .slice ra m rcap]] wa _ from asks_any HSx.out (by omega) l _ _ (ess k) (rss k) (HE.out.stay HSx.out.old) (HR.out.stay HSx.out.old) n m HEN.out HRN.out hel hrl).mono ?_
        rintro e w3 ⟨rfl, hS3⟩
        obtain ⟨lv, mv, us, us', hsh, hsame, hul, hup, -⟩ := id hS3
        have HS3 : Hd (St w wb (12 * k + 12) sm (fun j => j < w3.heap.size) w3) := hS3
        have h1 := hsh.ll.lists
        have h2 := hsh.lm.lists
        rw [← hsame] at h2
        obtain ⟨zss, hzs⟩ : ∃ zss, zss = us.map (·.2) := ⟨_, rfl⟩
        rw [← hzs] at h1 h2
        obtain ⟨la, lc, hlv, -, -⟩ := row_shape hsh.ll.row
        obtain ⟨ma, mc, hmv, -, -⟩ := row_shape hsh.lm.row
        subst hlv
        subst hmv
        obtain ⟨r0, r1, -⟩ := hsh.heads
        have H1 : Hd (ListsAt w3 (.slice la us.length lc) zss) := h1
        have H2 : Hd (ListsAt w3 (.slice ma us'.length mc) zss) := h2
        have HUL : Hd (zss.length ≤ 10000000000000) := by unfold Hd; rw [hzs, List.length_map]; omega
        have HUP : Hd (∀ zs ∈ zss, zs.length ≤ 10000000000000) := fun zs hz => by
          rw [hzs] at hz
          obtain ⟨p, hp, rfl⟩ := List.mem_map.1 hz
          have := hup p hp
          omega
        clear hS3 hsh hsame hul hup h1 h2 hzs
        go_wp2_with fail
        refine wp_region_still_tail 8 mixed (by kernel_rfl) ?_
        simp only [List.take_succ_cons, List.take_zero, List.drop_succ_cons, List.drop_zero]
        repeat still_step
        refine wpStill_nil ?_
        go_wp2_with fail
        refine (show Calls Try.prog 7 #[.slice la us.length lc, .slice ma us'.length mc] w3.drew _ from eqLists_same _ _ zss w3.drew H1.out H2.out HUL.out HUP.out).mono ?_
        rintro e w4 ⟨rfl, hF4⟩
        have HS4 : Hd (St w wb (12 * (k + 1)) sm (fun j => j < w4.heap.size) w4) := (HS3.out.keep ((Fr.refl _ w3).drew.trans hF4)).top.mono (by omega) (fun _ _ _ e => e)
        clear hF4 HS3 H1 H2 HUL HUP
        go_wp2_with fail
        exact ⟨⟨k + 1, sm, rfl, by simp, by omega, by omega, by omega, HS4.out⟩, by simp; omega⟩
    · have hke : k = gs.length := by omega
      subst hke
      have HF : Hd (Fr (fun _ => False) w wr) := HS.out.old
      go_wp2_with fail
      go_ret
      exact ⟨rfl, HF.out⟩

end Go.Proofs.Ytcjfmfddkhpfnab

namespace Go.Proofs.Ytcjfmfddkhpfnab
open Go.ChangeShapes Go.WideShapes Go.ChangeAt Go.RowKit
set_option linter.unusedVariables false
set_option linter.unusedSimpArgs false

set_option maxRecDepth 100000 in
theorem weighFrom_lifted (os : _root_.Go.Os) (started : os.Started) (H : Type) (enc : TypeId × Value → H) (F : Stop.Interp) :
    ReturnsInHanded {} Try.checked os 3 .any ((Rows.OpenSpec.upto Rows.weighFromSpec).pre6 enc Try.prog Try.f3 Rows.weighFromUptoRow.domain false) (((Rows.OpenSpec.upto Rows.weighFromSpec).at F).post enc Try.prog Try.f3 false true false false) := by
  refine returnsInHanded_of_cond (C := Try.checked) (s := Rows.OpenSpec.upto Rows.weighFromSpec) (k := Rows.uptoSmall) rfl knob started (by kernel_rfl) Try.func3
    (OpenSpec.witness (enc := enc) (C := Try.checked) (s := Rows.OpenSpec.upto Rows.weighFromSpec) (k := Rows.uptoSmall) rfl false ⟨#[], #[.slice none 0 0], []⟩ 8 (by kernel_rfl) (by kernel_rfl) (by kernel_rfl)
      (x := ([.nil], [], [])) (by kernel_rfl) rfl (by kernel_rfl)) ?_
  intro W base args ds gs before hval0 hW hcnd hk _
  have hval : ∀ (j : Nat) t v, Try.f3.params[j]? = some t → args[j]? = some v → Value.okWide Try.prog W .any base t v := hval0
  have hW' := hW
  obtain ⟨p, q, hA0, hV, rfl, hfz, hnd⟩ := hW
  have hA : DataW.TrodAll enc Try.prog W 0 (fun _ => true) true Try.f3.params.toList args.toList ds p := hA0
  rw [Try.params3] at hA hval
  obtain ⟨v0, vs0, d0, ds0, p0, q0, hargs, rfl, rfl, t0, r0⟩ := trodAll_cons hA
  obtain ⟨rfl, rfl, rfl⟩ := trodAll_nil r0
  obtain rfl : args = #[v0] := by cases args; simp_all
  obtain ⟨rfl, rfl⟩ := trodVars_none hV
  obtain ⟨a0, len0, cap0, rfl⟩ := okWide_slice under22G (hval 0 22 v0 rfl rfl)
  have lt0 : ∀ x ∈ p0, x.block < W.heap.size := by obtain ⟨m, hm⟩ := t0; exact DataW.trod_lt m _ _ _ hm
  have hbk := of_decide_eq_true hk
  simp only [List.append_nil, Rows.uptoBulkAll] at hbk
  obtain ⟨xs, ess, rss, hxs, hls, hxl⟩ := graphs_of t0 (by omega)
  clear hA0
  refine (weighFrom_walk _ xs ess rss W hxs hls hxl).mono fun e W' ⟨he, hf⟩ => ?_
  subst he
  have bel := fr_below hf
  exact ⟨_, rfl, _, _, _, [], _, [], hW', trodAll_mk1 (shut_bool under4 _), (trodAll_cons_mk (Below.trod laysOut (by kernel_rfl) (of_decide_eq_true (by kernel_rfl)) t0 bel lt0) trodAll_mk0), rfl, bel.frame _, fun h => by cases h⟩

/-- WeighFrom, up to its bulk. -/
theorem weighFrom_said : Rows.WeighFromUptoSaid :=
  OpenClaim.holds_of_cond 3 Try.f3 rfl rfl rfl rfl rfl rfl rfl ⟨rfl, rfl, rfl, rfl, rfl⟩ rfl rfl rfl rfl rfl (by kernel_rfl) Try.func3 (by kernel_rfl)
    (of_decide_eq_true (by kernel_rfl)) (by unfold Func.isWrapper; first | (rw [if_pos (by decide +kernel)]; kernel_rfl) | (rw [if_neg (by decide +kernel)]; exact ⟨rfl, rfl⟩))
    (fun os started H enc _ F => weighFrom_lifted os started H enc F)

end Go.Proofs.Ytcjfmfddkhpfnab
