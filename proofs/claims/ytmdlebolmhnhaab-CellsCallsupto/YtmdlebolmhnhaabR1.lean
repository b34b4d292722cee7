import Derived.Test.YtmdlebolmhnhaabZ4
import Derived.Test.YtmdlebolmhnhaabRows
import Derived.ProofKit
import Derived.OpenShut
import Derived.ChangeOld
import Derived.Below
import Derived.Carry
import Derived.Deep.SlicePairs
import Derived.SizedLaws
import Derived.JoinedCond
namespace Go.Proofs.Ytmdlebolmhnhaab
open Go.ChangeShapes Go.WideShapes Go.ChangeAt Go.RowKit
set_option linter.unusedVariables false
set_option linter.unusedSimpArgs false

theorem knob : ownKnob Try.prog.godebug = none := by kernel_rfl
theorem laysOut : laidOutB Try.prog = true := by kernel_rfl
theorem under4R : Try.prog.underlying 4 = some .bool := by kernel_rfl
def fld (name : String) (type offset byteOffset : Nat) : Field := { name := name, type := type, offset := offset, embedded := false, tag := "", pkgPath := "", byteOffset := byteOffset }
theorem under28R : Try.prog.underlying 28 = some (.struct #[fld "Kind" 3 0 0, fld "N" 3 1 8]) := by kernel_rfl
theorem under31R : Try.prog.underlying 31 = some (.struct #[fld "Kind" 3 0 0, fld "On" 3 1 8, fld "N" 3 2 16, fld "Heap" 4 3 24, fld "V" 28 4 32, fld "W" 28 6 48, fld "Cells" 29 8 64]) := by kernel_rfl
theorem under22R : Try.prog.underlying 22 = some (.slice 31) := by kernel_rfl
theorem under29R : Try.prog.underlying 29 = some (.slice 3) := by kernel_rfl
theorem cells3R : Try.prog.cellsOf 3 = 1 := by kernel_rfl
theorem cells4R : Try.prog.cellsOf 4 = 1 := by kernel_rfl
theorem cells28R : Try.prog.cellsOf 28 = 2 := by kernel_rfl
theorem cells29R : Try.prog.cellsOf 29 = 1 := by kernel_rfl
theorem cells31R : Try.prog.cellsOf 31 = 9 := by kernel_rfl
theorem addr_off (b off i : Nat) : (⟨b, off, none⟩ : Addr).add i = ⟨b, off + i, none⟩ := by unfold Addr.add; split <;> simp_all

theorem ints_of {H : Type} {enc : TypeId × Value → H} {W : World} {n : Nat} {cs : List Value} {x : DataW H × List MemPlace} (h : DataW.trod enc Try.prog W 0 (fun _ => true) true n 3 cs = some x) : ∃ z : Int, cs = [vI z] := by
  obtain ⟨z, e, -, -⟩ := DataW.trod_int under3 h
  exact ⟨z, e⟩

theorem val_of {H : Type} {enc : TypeId × Value → H} {W : World} {n : Nat} {c0 c1 : Value} {x : DataW H × List MemPlace} (h : DataW.trod enc Try.prog W 0 (fun _ => true) true n 28 [c0, c1] = some x) : ∃ v : Val, c0 = vI v.1 ∧ c1 = vI v.2 := by
  obtain ⟨xs, k, -, -, -, hxl, hf⟩ := DataW.trod_struct under28R h
  have hxl : xs.length = 2 := hxl
  have g0 := hf 0 (fld "Kind" 3 0 0) rfl
  have g1 := hf 1 (fld "N" 3 1 8) rfl
  simp only [fld] at g0 g1
  rw [cells3R, List.getElem?_eq_getElem (by omega)] at g0
  rw [cells3R, List.getElem?_eq_getElem (by omega)] at g1
  obtain ⟨z0, e0⟩ := ints_of g0
  obtain ⟨z1, e1⟩ := ints_of g1
  exact ⟨(z0, z1), by simpa using e0, by simpa using e1⟩

theorem len_cons {n : Nat} : ∀ {cs : List Value}, cs.length = n + 1 → ∃ c r, cs = c :: r ∧ r.length = n
  | c :: r, h => ⟨c, r, rfl, by simpa using h⟩

theorem bulk_pos {H : Type} (d : DataW H) : 1 ≤ Rows.uptoBulk d := by
  cases d with
  | lit l => cases l <;> simp [Rows.uptoBulk]
  | _ => simp [Rows.uptoBulk]

theorem bulk_len {H : Type} : ∀ (l : List (DataW H)), l.length ≤ Rows.uptoBulkAll l
  | [] => by simp
  | d :: r => by
    have h1 := bulk_pos d
    have h2 := bulk_len r
    simp only [Rows.uptoBulkAll, List.length_cons]
    omega

theorem bulk_mem {H : Type} {d : DataW H} : ∀ {l : List (DataW H)}, d ∈ l → Rows.uptoBulk d ≤ Rows.uptoBulkAll l
  | e :: r, h => by
    simp only [Rows.uptoBulkAll]
    rcases List.mem_cons.1 h with rfl | h
    · omega
    · have := bulk_mem h; omega

/-- Numbers that came in, among cells. -/
theorem intsAt_of {H : Type} {enc : TypeId × Value → H} {W : World} {n : Nat} {c : Value} {x : DataW H × List MemPlace} (h : DataW.trod enc Try.prog W 0 (fun _ => true) true n 29 [c] = some x) :
    ∃ a zs cap, c = .slice a (zs : List Int).length cap ∧ IntsAt W.heap.size W c zs ∧ zs.length ≤ Rows.uptoBulk x.1 := by
  rcases Deep.open_slice1 under29R cells3R h with ⟨hcs, hx⟩ | ⟨a, len, cap, m, k, V, D, Pl, hcs, -, hl, -, hmm, hx, hV⟩
  · have hcs := (List.cons.inj hcs).1
    subst hcs
    exact ⟨none, [], 0, rfl, Or.inl ⟨none, 0, rfl, rfl⟩, by simp⟩
  · have hcs := (List.cons.inj hcs).1
    subst hcs
    have hmc : m = cap := by simpa using hmm
    subst hmc
    have hz : ∀ i, i < m → V i = vI (RowKit.intOf (V i)) := fun i hi => by
      obtain ⟨z, hz⟩ := ints_of (hV i hi).2
      have hz := (List.cons.inj hz).1
      rw [hz]
      rfl
    have hlen : ((List.range len).map fun i => RowKit.intOf (V i)).length = len := by simp
    refine ⟨some a, (List.range len).map fun i => RowKit.intOf (V i), m, by rw [hlen], ?_, ?_⟩
    · rcases Nat.eq_zero_or_pos len with h0 | hpos
      · subst h0
        exact Or.inl ⟨_, _, rfl, rfl⟩
      · obtain ⟨b, off, spot⟩ := a
        have hspot : spot = none := by
          have := World.cell?_spot (hV 0 (by omega)).1
          simpa [Addr.add] using this
        subst hspot
        have h0 := (hV 0 (by omega)).1
        rw [addr_off] at h0
        refine Or.inr ⟨b, off, m, by rw [hlen], cell_lt0 h0, fun j hj => ?_⟩
        have hj' : j < len := by simpa using hj
        have h1 := (hV j (by omega)).1
        rw [addr_off, hz j (by omega)] at h1
        rw [h1]
        simp [List.getElem?_map, List.getElem?_range hj']
    · rw [hlen, hx]
      simp only [Rows.uptoBulk]
      have := bulk_len ((List.range len).map D)
      simp only [List.length_map, List.length_range] at this
      omega

/-- A call that came in, out of its cells, with its list. -/
theorem op_ofL {H : Type} {enc : TypeId × Value → H} {W : World} {n : Nat} {cs : List Value} {x : DataW H × List MemPlace} (h : DataW.trod enc Try.prog W 0 (fun _ => true) true n 31 cs = some x) :
    ∃ (o : OpR) (zs : List Int), cs = (opC o).toList ∧ IntsAt W.heap.size W o.cells zs ∧ zs.length ≤ Rows.uptoBulk x.1 := by
  obtain ⟨xs, k, -, rfl, hcl, hxl, hf⟩ := DataW.trod_struct under31R h
  rw [cells31R] at hcl
  have hxl : xs.length = 7 := hxl
  obtain ⟨c0, r0, rfl, hl1⟩ := len_cons hcl
  obtain ⟨c1, r1, rfl, hl2⟩ := len_cons hl1
  obtain ⟨c2, r2, rfl, hl3⟩ := len_cons hl2
  obtain ⟨c3, r3, rfl, hl4⟩ := len_cons hl3
  obtain ⟨c4, r4, rfl, hl5⟩ := len_cons hl4
  obtain ⟨c5, r5, rfl, hl6⟩ := len_cons hl5
  obtain ⟨c6, r6, rfl, hl7⟩ := len_cons hl6
  obtain ⟨c7, r7, rfl, hl8⟩ := len_cons hl7
  obtain ⟨c8, r8, rfl, hl9⟩ := len_cons hl8
  obtain rfl := List.length_eq_zero_iff.1 hl9
  have g0 := hf 0 (fld "Kind" 3 0 0) rfl
  have g1 := hf 1 (fld "On" 3 1 8) rfl
  have g2 := hf 2 (fld "N" 3 2 16) rfl
  have g3 := hf 3 (fld "Heap" 4 3 24) rfl
  have g4 := hf 4 (fld "V" 28 4 32) rfl
  have g5 := hf 5 (fld "W" 28 6 48) rfl
  have g6 := hf 6 (fld "Cells" 29 8 64) rfl
  have e6x : xs[6]? = some (xs[6]'(by omega)) := List.getElem?_eq_getElem (by omega)
  rw [List.getElem?_eq_getElem (by omega)] at g0 g1 g2 g3 g4 g5 g6
  simp only [fld, cells3R, cells4R, cells28R, cells29R, List.drop_zero, List.drop_succ_cons, List.take_succ_cons, List.take_zero] at g0 g1 g2 g3 g4 g5 g6
  obtain ⟨z0, e0⟩ := ints_of g0
  obtain ⟨z1, e1⟩ := ints_of g1
  obtain ⟨z2, e2⟩ := ints_of g2
  obtain ⟨z3, e3, -⟩ := DataW.trod_bool under4R g3
  obtain ⟨v4, e4, e4'⟩ := val_of g4
  obtain ⟨v5, e5, e5'⟩ := val_of g5
  obtain ⟨a6, zs, k6, e6, hI, hb⟩ := intsAt_of g6
  have e0 := (List.cons.inj e0).1
  have e1 := (List.cons.inj e1).1
  have e2 := (List.cons.inj e2).1
  have e3 := (List.cons.inj e3).1
  subst e0; subst e1; subst e2; subst e3; subst e4; subst e4'; subst e5; subst e5'; subst e6
  refine ⟨⟨z0, z1, z2, z3, v4, v5, a6, zs.length, k6⟩, zs, rfl, hI, ?_⟩
  refine Nat.le_trans hb ?_
  simp only [Rows.uptoBulk]
  exact Nat.le_succ_of_le (bulk_mem (List.mem_map.2 ⟨_, List.getElem_mem _, rfl⟩))

/-- Calls that came in, with their lists. -/
theorem ops_ofL {H : Type} {enc : TypeId × Value → H} {W : World} {a : Option Addr} {len cap : Nat} {d : DataW H} {ps : List MemPlace} (h : DataW.Trod enc Try.prog W 0 (fun _ => true) true 22 (.slice a len cap) d ps) (hsz : Rows.uptoBulk d ≤ 1048576) :
    ∃ (os : List OpR) (zss : Nat → List Int), OpsIn W (.slice a len cap) os ∧ (∀ i (hi : i < os.length), IntsAt W.heap.size W os[i].cells (zss i) ∧ (zss i).length ≤ 1048576) ∧ os.length ≤ 1048576 := by
  obtain ⟨fuel, hf⟩ := h
  rcases Deep.open_slice under22R hf with ⟨hcs, hx⟩ | ⟨x, l, c, m, n, D, Pl, hcs, _, hl, hm, hmm, hx, hc⟩
  · simp [Value.cells] at hcs
    obtain ⟨rfl, rfl, rfl⟩ := hcs
    exact ⟨[], fun _ => [], ⟨none, 0, rfl, Nat.le_refl _, fun h => absurd rfl h⟩, fun i h => absurd h (by simp), by simp⟩
  · simp [Value.cells] at hcs
    obtain ⟨rfl, rfl, rfl⟩ := hcs
    have hmc : m = cap := by simpa using hmm
    subst hmc
    have hd := congrArg Prod.fst hx
    simp only at hd
    subst hd
    simp only [Rows.uptoBulk] at hsz
    have hv : ∀ i, ∃ q : OpR × List Int, i < len → (∀ j, j < 9 → W.cell? ((x.add (i * 9)).add j) = (opC q.1)[j]?) ∧ IntsAt W.heap.size W q.1.cells q.2 ∧ q.2.length ≤ 1048576 := by
      intro i
      by_cases hi : i < len
      · obtain ⟨cs', r0, r1⟩ := hc i (by omega)
        rw [cells31R] at r0
        obtain ⟨-, -, hcell⟩ := World.cells?_some r0
        obtain ⟨o, zs, rfl, h2, h3⟩ := op_ofL r1
        refine ⟨(o, zs), fun _ => ⟨fun j hj => by rw [hcell j hj]; simp, h2, ?_⟩⟩
        have hb : Rows.uptoBulk (D i) ≤ Rows.uptoBulkAll ((List.range len).map D) := bulk_mem (List.mem_map.2 ⟨i, List.mem_range.2 hi, rfl⟩)
        simp only at h3 ⊢
        omega
      · exact ⟨(⟨0, 0, 0, false, (0, 0), (0, 0), none, 0, 0⟩, []), fun h => absurd h hi⟩
    obtain ⟨Q, hQ⟩ : ∃ Q : Nat → OpR × List Int, ∀ i, i < len → (∀ j, j < 9 → W.cell? ((x.add (i * 9)).add j) = (opC (Q i).1)[j]?) ∧ IntsAt W.heap.size W (Q i).1.cells (Q i).2 ∧ (Q i).2.length ≤ 1048576 :=
      ⟨fun i => (hv i).choose, fun i => (hv i).choose_spec⟩
    have hlen : ((List.range len).map fun i => (Q i).1).length = len := by simp
    refine ⟨(List.range len).map fun i => (Q i).1, fun i => (Q i).2, ⟨some x, m, by rw [hlen], by omega, fun hne => ?_⟩, fun i hi => ?_, ?_⟩
    · obtain ⟨b, off, spot⟩ := x
      have hpos : 0 < len := by
        rcases Nat.eq_zero_or_pos len with h0 | h0
        · exfalso; apply hne; rw [h0]; rfl
        · exact h0
      have hspot : spot = none := by
        have h00 := (hQ 0 hpos).1 0 (by omega)
        have := World.cell?_spot (h00.trans (show (opC (Q 0).1)[0]? = some (vI (Q 0).1.kind) from rfl))
        simpa [Addr.add] using this
      subst hspot
      have hc' : ∀ i, i < len → ∀ j, j < 9 → W.cell? ⟨b, off + i * 9 + j, none⟩ = (opC (Q i).1)[j]? := fun i hi j hj => by
        have h1 := (hQ i hi).1 j hj
        rw [addr_off, addr_off] at h1
        exact h1
      refine ⟨b, off, rfl, cell_lt0 ((hc' 0 hpos 0 (by omega)).trans (show (opC (Q 0).1)[0]? = some (vI (Q 0).1.kind) from rfl)), fun i hi j hj => ?_⟩
      have hi' : i < len := by simpa using hi
      simpa using hc' i hi' j hj
    · have hi' : i < len := by simpa using hi
      simpa using (hQ i hi').2
    · rw [hlen]
      have h1 := bulk_len ((List.range len).map D)
      simp only [List.length_map, List.length_range] at h1
      omega

set_option maxRecDepth 100000 in
theorem cellsCalls_lifted (os : Os) (started : os.Started) (H : Type) (enc : TypeId × Value → H) (F : Stop.Interp) :
    ReturnsInHanded {} Try.checked os 3 .any ((Rows.OpenSpec.upto Rows.cellsCallsSpec).pre6 enc Try.prog Try.f3 Rows.cellsCallsUptoRow.domain false) (((Rows.OpenSpec.upto Rows.cellsCallsSpec).at F).post enc Try.prog Try.f3 false true false false) := by
  refine returnsInHanded_of_cond (C := Try.checked) (s := Rows.OpenSpec.upto Rows.cellsCallsSpec) (k := Rows.uptoSmall) rfl knob started (by kernel_rfl) Try.func3
    (OpenSpec.witness (enc := enc) (C := Try.checked) (s := Rows.OpenSpec.upto Rows.cellsCallsSpec) (k := Rows.uptoSmall) rfl false ⟨#[], #[.slice none 0 0], []⟩ 8 (by kernel_rfl) (by kernel_rfl) (by kernel_rfl)
      (x := ([.nil], [], [])) (by kernel_rfl) rfl (by kernel_rfl)) ?_
  intro W base args ds gs before hval0 hW hcnd hk _
  have hval : ∀ (j : Nat) t v, Try.f3.params[j]? = some t → args[j]? = some v → Value.okWide Try.prog W .any base t v := hval0
  have hW' := hW
  obtain ⟨p, q, hA0, hV, rfl, hfz, hnd⟩ := hW
  have hA : DataW.TrodAll enc Try.prog W 0 (fun _ => true) true Try.f3.params.toList args.toList ds p := hA0
  rw [Try.params3] at hA hval
  obtain ⟨v0, vs0, d0, ds0, p0, q0, hargs, rfl, rfl, t0, r0⟩ := trodAll_cons hA
  obtain ⟨rfl, rfl, rfl⟩ := trodAll_nil r0
  obtain rfl : args = #[v0] := by cases args; simp_all
  obtain ⟨rfl, rfl⟩ := trodVars_none hV
  obtain ⟨a0, len0, cap0, rfl⟩ := okWide_slice under22R (hval 0 22 v0 rfl rfl)
  have lt0 : ∀ x ∈ p0, x.block < W.heap.size := by obtain ⟨m, hm⟩ := t0; exact DataW.trod_lt m _ _ _ hm
  have hbk := of_decide_eq_true hk
  simp only [List.append_nil, Rows.uptoBulkAll] at hbk
  obtain ⟨xs, zss, hxs, hzs, hxl⟩ := ops_ofL t0 (by omega)
  clear hA0
  refine (calls_walk _ xs zss W hxs hzs hxl).mono fun e W' ⟨he, hf⟩ => ?_
  subst he
  have bel : Below W.heap.size W W' := ⟨hf.os, hf.tape, hf.output, hf.size, fun k hk => hf.block k hk (fun h => h)⟩
  exact ⟨_, rfl, _, _, _, [], _, [], hW', trodAll_mk1 (shut_bool under4R _), (trodAll_cons_mk (Below.trod laysOut (by kernel_rfl) (of_decide_eq_true (by kernel_rfl)) t0 bel lt0) trodAll_mk0), rfl, bel.frame _, fun h => by cases h⟩

/-- CellsCalls, up to its bulk. -/
theorem cellsCalls_said : Rows.CellsCallsUptoSaid :=
  OpenClaim.holds_of_cond 3 Try.f3 rfl rfl rfl rfl rfl rfl rfl ⟨rfl, rfl, rfl, rfl, rfl⟩ rfl rfl rfl rfl rfl (by kernel_rfl) Try.func3 (by kernel_rfl)
    (of_decide_eq_true (by kernel_rfl)) (by unfold Func.isWrapper; first | (rw [if_pos (by decide +kernel)]; kernel_rfl) | (rw [if_neg (by decide +kernel)]; exact ⟨rfl, rfl⟩))
    (fun os started H enc _ F => cellsCalls_lifted os started H enc F)

end Go.Proofs.Ytmdlebolmhnhaab
