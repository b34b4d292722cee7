import Derived.Test.YtihicdbplmdjiaaQB1J
import Derived.Test.YtihicdbplmdjiaaRows
import Derived.ProofKit
import Derived.OpenShut
import Derived.ChangeOld
import Derived.Below
import Derived.Carry
import Derived.SizedLaws
import Derived.Deep.SlicePairs
namespace Go.Proofs.Ytihicdbplmdjiaa
open Go.ChangeShapes Go.WideShapes Go.ChangeAt Go.RowKit
set_option linter.unusedVariables false
set_option linter.unusedSimpArgs false

theorem knob : ownKnob Try.prog.godebug = none := by kernel_rfl
theorem laysOut : laidOutB Try.prog = true := by kernel_rfl
theorem under3 : Try.prog.underlying 3 = some (.int .i64) := by kernel_rfl
theorem under4 : Try.prog.underlying 4 = some .bool := by kernel_rfl
theorem under9 : Try.prog.underlying 9 = some .string := by kernel_rfl
theorem cells3 : Try.prog.cellsOf 3 = 1 := by kernel_rfl
theorem cells4 : Try.prog.cellsOf 4 = 1 := by kernel_rfl
theorem cells9 : Try.prog.cellsOf 9 = 1 := by kernel_rfl
theorem cells24 : Try.prog.cellsOf 24 = 3 := by kernel_rfl
theorem cells25 : Try.prog.cellsOf 25 = 1 := by kernel_rfl
theorem cells26 : Try.prog.cellsOf 26 = 1 := by kernel_rfl
theorem cells28 : Try.prog.cellsOf 28 = 4 := by kernel_rfl
theorem cells30 : Try.prog.cellsOf 30 = 9 := by kernel_rfl
theorem bytes3 : Try.prog.bytesOf 3 = 8 := by kernel_rfl
theorem bytes9 : Try.prog.bytesOf 9 = 16 := by kernel_rfl
theorem bytes30 : Try.prog.bytesOf 30 = 120 := by kernel_rfl
theorem under22 : Try.prog.underlying 22 = some (.slice 30) := by kernel_rfl
theorem under25 : Try.prog.underlying 25 = some (.slice 3) := by kernel_rfl
theorem under26 : Try.prog.underlying 26 = some (.slice 9) := by kernel_rfl
def fld (name : String) (type offset byteOffset : Nat) : Field := { name := name, type := type, offset := offset, embedded := false, tag := "", pkgPath := "", byteOffset := byteOffset }
theorem under24s : Try.prog.underlying 24 = some (.struct #[fld "Kind" 3 0 0, fld "Key" 3 1 8, fld "Value" 9 2 16]) := by kernel_rfl
theorem under28s : Try.prog.underlying 28 = some (.struct #[fld "Ok" 4 0 0, fld "Value" 9 1 8, fld "Keys" 25 2 24, fld "Values" 26 3 48]) := by kernel_rfl
theorem under30s : Try.prog.underlying 30 = some (.struct #[fld "Client" 3 0 0, fld "Begin" 4 1 8, fld "Op" 24 2 16, fld "Reply" 28 5 48]) := by kernel_rfl
theorem reach_is : reachBytes = 140737488351232 := by decide
theorem fr_below {w w' : World} (hf : Fr (fun _ => False) w w') : Below w.heap.size w w' := ⟨hf.os, hf.tape, hf.output, hf.size, fun k hk => hf.block k hk (fun h => h)⟩
theorem in64_of {z : Int} (hw : (Lit.int .i64 z).wf = true) : In64 z := by
  have h : IntKind.i64.min ≤ z ∧ z ≤ 9223372036854775807 := by simpa [Lit.wf] using hw
  exact ⟨h.1, h.2⟩
theorem ints_of {H : Type} {enc : TypeId × Value → H} {W : World} {n : Nat} {cs : List Value} {x : DataW H × List MemPlace} (h : DataW.trod enc Try.prog W 0 (fun _ => true) true n 3 cs = some x) : ∃ z : Int, cs = [vI z] ∧ In64 z := by
  obtain ⟨z, e, -, hw⟩ := DataW.trod_int under3 h
  exact ⟨z, e, in64_of hw⟩
theorem addr_off (b off i : Nat) : (⟨b, off, none⟩ : Addr).add i = ⟨b, off + i, none⟩ := by unfold Addr.add; split <;> simp_all
theorem len_cons {n : Nat} : ∀ {cs : List Value}, cs.length = n + 1 → ∃ c r, cs = c :: r ∧ r.length = n
  | c :: r, h => ⟨c, r, rfl, by simpa using h⟩
/-- All that came in lies within the reach. -/
def Szd {H : Type} (d : DataW H) (t : Nat) : Prop := ∀ q ∈ d.weights Try.prog t, q ≤ reachBytes
theorem weightsAll_mem {H : Type} {P : Program} {e : TypeId} {d : DataW H} {n : Nat} (hn : n ∈ d.weights P e) : ∀ {ds : List (DataW H)}, d ∈ ds → n ∈ DataW.weightsAll P e ds
  | a :: r, h => by
    simp only [DataW.weightsAll, List.mem_append]
    rcases List.mem_cons.1 h with rfl | h
    · exact Or.inl hn
    · exact Or.inr (weightsAll_mem hn h)
/-- A slice that came in, element by element, within the reach. -/
theorem rows_sz {H : Type} {enc : TypeId × Value → H} {W : World} {n t e sz by' : Nat} {c : Value} {x : DataW H × List MemPlace} (ht : Try.prog.underlying t = some (.slice e)) (hsz : Try.prog.cellsOf e = sz) (hby : Try.prog.bytesOf e = by') (hs0 : 0 < sz)
    (h : DataW.trod enc Try.prog W 0 (fun _ => true) true n t [c] = some x) (hx : Szd x.1 t) {α : Type} (dflt : α) (Pr : α → List Value → Prop)
    (hel : ∀ n cs (y : DataW H × List MemPlace), DataW.trod enc Try.prog W 0 (fun _ => true) true n e cs = some y → Szd y.1 e → ∃ q, Pr q cs) :
    ∃ l : List α, l.length * by' ≤ reachBytes ∧ ∃ a cp, c = .slice a l.length cp ∧ l.length ≤ cp ∧ (l ≠ [] → ∃ k o, a = some ⟨k, o, none⟩ ∧ k < W.heap.size ∧ ∀ j (h : j < l.length), ∃ cs, Pr l[j] cs ∧ ∀ i, i < sz → W.cell? ⟨k, o + j * sz + i, none⟩ = cs[i]?) := by
  rcases Deep.open_slice ht h with ⟨hcs, hx⟩ | ⟨a, len, cap, m, k, D, Pl, hcs, _, hl, hm, hmm, hxx, hc⟩
  · have hcs := (List.cons.inj hcs).1
    subst hcs
    exact ⟨[], by simp, none, 0, rfl, by simp, fun h => absurd rfl h⟩
  · have hcs := (List.cons.inj hcs).1
    subst hcs
    have hmc : m = cap := by simpa using hmm
    subst hmc
    have hw : ∀ q, q ∈ (((((List.range len).map D).length + ((List.range (m - len)).map fun j => D (len + j)).length) * by') :: DataW.weightsAll Try.prog e ((List.range len).map D)) → q ≤ reachBytes := by
      intro q hq
      apply hx
      rw [hxx]
      simp only [DataW.weights, ht, hby]
      rcases List.mem_cons.1 hq with rfl | hq
      · exact List.mem_cons_self
      · exact List.mem_cons_of_mem _ (List.mem_append_left _ hq)
    have hlw : len * by' ≤ reachBytes := by
      have := hw _ List.mem_cons_self
      simp only [List.length_map, List.length_range] at this
      exact Nat.le_trans (Nat.mul_le_mul_right by' (by omega)) this
    have hv : ∀ i, ∃ q : α × List Value, i < len → Pr q.1 q.2 ∧ q.2.length = sz ∧ ∀ j, j < sz → W.cell? ((a.add (i * sz)).add j) = q.2[j]? := by
      intro i
      by_cases hi : i < len
      · obtain ⟨cs', r0, r1⟩ := hc i (by omega)
        rw [hsz] at r0
        obtain ⟨-, hcl, hcell⟩ := World.cells?_some r0
        obtain ⟨q, hq⟩ := hel _ _ _ r1 (fun q hq => hw q (List.mem_cons_of_mem _ (weightsAll_mem hq (List.mem_map.2 ⟨i, List.mem_range.2 hi, rfl⟩))))
        exact ⟨(q, cs'), fun _ => ⟨hq, hcl, hcell⟩⟩
      · exact ⟨(dflt, []), fun h => absurd h hi⟩
    obtain ⟨Q, hQ⟩ : ∃ Q : Nat → α × List Value, ∀ i, i < len → Pr (Q i).1 (Q i).2 ∧ (Q i).2.length = sz ∧ ∀ j, j < sz → W.cell? ((a.add (i * sz)).add j) = (Q i).2[j]? :=
      ⟨fun i => (hv i).choose, fun i => (hv i).choose_spec⟩
    have hlen : ((List.range len).map fun i => (Q i).1).length = len := by simp
    refine ⟨(List.range len).map fun i => (Q i).1, by rw [hlen]; exact hlw, some a, m, by rw [hlen], by rw [hlen]; omega, fun hne => ?_⟩
    obtain ⟨b, off, spot⟩ := a
    have hpos : 0 < len := by
      rcases Nat.eq_zero_or_pos len with h0 | h0
      · exfalso; apply hne; rw [h0]; rfl
      · exact h0
    have h00 : W.cell? ((({ block := b, off := off, spot := spot } : Addr).add (0 * sz)).add 0) = some ((Q 0).2[0]'(by rw [(hQ 0 hpos).2.1]; exact hs0)) := by
      rw [(hQ 0 hpos).2.2 0 hs0]; exact List.getElem?_eq_getElem _
    have hspot : spot = none := by
      have := World.cell?_spot h00
      simpa [Addr.add] using this
    subst hspot
    simp only [addr_off] at hQ h00
    refine ⟨b, off, rfl, cell_lt h00, fun j hj => ?_⟩
    have hj' : j < len := by simpa using hj
    refine ⟨(Q j).2, ?_, (hQ j hj').2.2⟩
    have := (hQ j hj').1
    simpa using this

/-- Numbers that came in. -/
theorem ints_in {H : Type} {enc : TypeId × Value → H} {W : World} {n : Nat} {c : Value} {x : DataW H × List MemPlace} (h : DataW.trod enc Try.prog W 0 (fun _ => true) true n 25 [c] = some x) (hx : Szd x.1 25) :
    ∃ zs : List Int, RowAt W c (zs.map vI) ∧ zs.length ≤ 17592186043904 ∧ ∀ z ∈ zs, In64 z := by
  have hr := reach_is
  obtain ⟨l, hl, a, cp, e, hcp, hin⟩ := rows_sz under25 cells3 bytes3 (by omega) h hx (⟨0, by decide⟩ : {z : Int // In64 z})
    (fun q cs => cs = [vI q.1])
    (fun n cs y hy hs => by
      obtain ⟨z, hcs, hz⟩ := ints_of hy
      exact ⟨⟨z, hz⟩, hcs⟩)
  refine ⟨l.map (·.1), ⟨a, cp, by simpa using e, fun hne => ?_⟩, by rw [List.length_map]; omega, fun z hz => ?_⟩
  · obtain ⟨k, o, rfl, hk, hc⟩ := hin (fun e => hne (by rw [e]; rfl))
    refine ⟨k, o, rfl, fun j hj => ?_⟩
    have hj' : j < l.length := by simpa using hj
    obtain ⟨cs, hcs, hcell⟩ := hc j hj'
    subst hcs
    have := hcell 0 (by omega)
    rw [Nat.mul_one, Nat.add_zero] at this
    rw [this]; simp
  · obtain ⟨q, -, rfl⟩ := List.mem_map.1 hz
    exact q.2
/-- Texts that came in. -/
theorem strs_in {H : Type} {enc : TypeId × Value → H} {W : World} {n : Nat} {c : Value} {x : DataW H × List MemPlace} (h : DataW.trod enc Try.prog W 0 (fun _ => true) true n 26 [c] = some x) (hx : Szd x.1 26) :
    ∃ vs : List ByteArray, RowAt W c (vs.map Value.string) ∧ vs.length ≤ 17592186043904 := by
  have hr := reach_is
  obtain ⟨l, hl, a, cp, e, hcp, hin⟩ := rows_sz under26 cells9 bytes9 (by omega) h hx (⟨#[]⟩ : ByteArray)
    (fun q cs => cs = [.string q])
    (fun n cs y hy hs => by
      obtain ⟨s, hcs, -⟩ := DataW.trod_string under9 hy
      exact ⟨s, hcs⟩)
  refine ⟨l, ⟨a, cp, by simpa using e, fun hne => ?_⟩, by omega⟩
  obtain ⟨k, o, rfl, hk, hc⟩ := hin (fun e => hne (by rw [e]; rfl))
  refine ⟨k, o, rfl, fun j hj => ?_⟩
  have hj' : j < l.length := by simpa using hj
  obtain ⟨cs, hcs, hcell⟩ := hc j hj'
  subst hcs
  have := hcell 0 (by omega)
  rw [Nat.mul_one, Nat.add_zero] at this
  rw [this]; simp

set_option maxRecDepth 100000 in
/-- A call that came in. -/
theorem op_in {H : Type} {enc : TypeId × Value → H} {W : World} {n : Nat} {cs : List Value} {x : DataW H × List MemPlace} (h : DataW.trod enc Try.prog W 0 (fun _ => true) true n 24 cs = some x) :
    ∃ (kd ky : Int) (s : ByteArray), cs = [vI kd, vI ky, .string s] ∧ In64 kd ∧ In64 ky := by
  obtain ⟨xs, k, -, rfl, hcl, hxl, hf⟩ := DataW.trod_struct under24s h
  rw [cells24] at hcl
  have hxl : xs.length = 3 := hxl
  obtain ⟨c0, r0, rfl, hl1⟩ := len_cons hcl
  obtain ⟨c1, r1, rfl, hl2⟩ := len_cons hl1
  obtain ⟨c2, r2, rfl, hl3⟩ := len_cons hl2
  obtain rfl := List.length_eq_zero_iff.1 hl3
  have g0 := hf 0 (fld "Kind" 3 0 0) rfl
  have g1 := hf 1 (fld "Key" 3 1 8) rfl
  have g2 := hf 2 (fld "Value" 9 2 16) rfl
  rw [List.getElem?_eq_getElem (show 0 < xs.length by omega)] at g0
  rw [List.getElem?_eq_getElem (show 1 < xs.length by omega)] at g1
  rw [List.getElem?_eq_getElem (show 2 < xs.length by omega)] at g2
  simp only [fld, cells3, cells9, List.drop_zero, List.drop_succ_cons, List.take_succ_cons, List.take_zero] at g0 g1 g2
  obtain ⟨z0, f0, i0⟩ := ints_of g0
  obtain ⟨z1, f1, i1⟩ := ints_of g1
  obtain ⟨s, f2, -⟩ := DataW.trod_string under9 g2
  have f0 := (List.cons.inj f0).1
  have f1 := (List.cons.inj f1).1
  have f2 := (List.cons.inj f2).1
  subst f0 f1 f2
  exact ⟨z0, z1, s, rfl, i0, i1⟩
set_option maxRecDepth 100000 in
/-- An answer that came in. -/
theorem rep_in {H : Type} {enc : TypeId × Value → H} {W : World} {n : Nat} {cs : List Value} {x : DataW H × List MemPlace} (h : DataW.trod enc Try.prog W 0 (fun _ => true) true n 28 cs = some x) (hx : Szd x.1 28) :
    ∃ R : RV, cs = [.bool R.r.ok, .string R.r.val, R.kv, R.vv] ∧ R.At W ∧ R.r.keys.length ≤ 17592186043904 ∧ R.r.vals.length ≤ 17592186043904 ∧ ∀ z ∈ R.r.keys, In64 z := by
  obtain ⟨xs, k, -, rfl, hcl, hxl, hf⟩ := DataW.trod_struct under28s h
  rw [cells28] at hcl
  have hxl : xs.length = 4 := hxl
  obtain ⟨c0, r0, rfl, hl1⟩ := len_cons hcl
  obtain ⟨c1, r1, rfl, hl2⟩ := len_cons hl1
  obtain ⟨c2, r2, rfl, hl3⟩ := len_cons hl2
  obtain ⟨c3, r3, rfl, hl4⟩ := len_cons hl3
  obtain rfl := List.length_eq_zero_iff.1 hl4
  have g0 := hf 0 (fld "Ok" 4 0 0) rfl
  have g1 := hf 1 (fld "Value" 9 1 8) rfl
  have g2 := hf 2 (fld "Keys" 25 2 24) rfl
  have g3 := hf 3 (fld "Values" 26 3 48) rfl
  have e2 : xs[2]? = some (xs[2]'(by omega)) := List.getElem?_eq_getElem (by omega)
  have e3 : xs[3]? = some (xs[3]'(by omega)) := List.getElem?_eq_getElem (by omega)
  rw [List.getElem?_eq_getElem (show 0 < xs.length by omega)] at g0
  rw [List.getElem?_eq_getElem (show 1 < xs.length by omega)] at g1
  rw [e2] at g2
  rw [e3] at g3
  simp only [fld, cells4, cells9, cells25, cells26, List.drop_zero, List.drop_succ_cons, List.take_succ_cons, List.take_zero] at g0 g1 g2 g3
  obtain ⟨b, f0, -⟩ := DataW.trod_bool under4 g0
  obtain ⟨s, f1, -⟩ := DataW.trod_string under9 g1
  have w2 : Szd (xs[2]'(by omega)).1 25 := fun q hq => hx q (by
    simp only [DataW.weights, under28s]
    exact DataW.weights_mem_each (j := 2) (t := 25) (d := (xs[2]'(by omega)).1) rfl (by rw [List.getElem?_map, e2]; rfl) q hq)
  have w3 : Szd (xs[3]'(by omega)).1 26 := fun q hq => hx q (by
    simp only [DataW.weights, under28s]
    exact DataW.weights_mem_each (j := 3) (t := 26) (d := (xs[3]'(by omega)).1) rfl (by rw [List.getElem?_map, e3]; rfl) q hq)
  obtain ⟨ks, hk, hkl, hk64⟩ := ints_in g2 w2
  obtain ⟨vs, hv, hvl⟩ := strs_in g3 w3
  have f0 := (List.cons.inj f0).1
  have f1 := (List.cons.inj f1).1
  subst f0 f1
  exact ⟨⟨⟨b, s, ks, vs⟩, c2, c3⟩, rfl, ⟨hk, hv⟩, hkl, hvl, hk64⟩
set_option maxRecDepth 100000 in
/-- A moment that came in. -/
theorem mom_in {H : Type} {enc : TypeId × Value → H} {W : World} {n : Nat} {cs : List Value} {x : DataW H × List MemPlace} (h : DataW.trod enc Try.prog W 0 (fun _ => true) true n 30 cs = some x) (hx : Szd x.1 30) :
    ∃ m : Mo, cs = m9 m ∧ m.R.At W ∧ m.R.r.keys.length ≤ 17592186043904 ∧ m.R.r.vals.length ≤ 17592186043904 ∧ (∀ z ∈ m.R.r.keys, In64 z) ∧ In64 m.c ∧ In64 m.ky := by
  obtain ⟨xs, k, -, rfl, hcl, hxl, hf⟩ := DataW.trod_struct under30s h
  rw [cells30] at hcl
  have hxl : xs.length = 4 := hxl
  obtain ⟨c0, r0, rfl, hl1⟩ := len_cons hcl
  obtain ⟨c1, r1, rfl, hl2⟩ := len_cons hl1
  have g0 := hf 0 (fld "Client" 3 0 0) rfl
  have g1 := hf 1 (fld "Begin" 4 1 8) rfl
  have g2 := hf 2 (fld "Op" 24 2 16) rfl
  have g3 := hf 3 (fld "Reply" 28 5 48) rfl
  have e3 : xs[3]? = some (xs[3]'(by omega)) := List.getElem?_eq_getElem (by omega)
  rw [List.getElem?_eq_getElem (show 0 < xs.length by omega)] at g0
  rw [List.getElem?_eq_getElem (show 1 < xs.length by omega)] at g1
  rw [List.getElem?_eq_getElem (show 2 < xs.length by omega)] at g2
  rw [e3] at g3
  simp only [fld, cells3, cells4, cells24, cells28, List.drop_zero, List.drop_succ_cons, List.take_succ_cons, List.take_zero] at g0 g1 g2 g3
  obtain ⟨z0, f0, i0⟩ := ints_of g0
  obtain ⟨b, f1, -⟩ := DataW.trod_bool under4 g1
  have w3 : Szd (xs[3]'(by omega)).1 28 := fun q hq => hx q (by
    simp only [DataW.weights, under30s]
    exact DataW.weights_mem_each (j := 3) (t := 28) (d := (xs[3]'(by omega)).1) rfl (by rw [List.getElem?_map, e3]; rfl) q hq)
  obtain ⟨kd, ky, s, f2, -, iy⟩ := op_in g2
  obtain ⟨R, f3, hR⟩ := rep_in g3 w3
  have f0 := (List.cons.inj f0).1
  have f1 := (List.cons.inj f1).1
  subst f0 f1
  refine ⟨⟨z0, b, kd, ky, s, R⟩, ?_, hR.1, hR.2.1, hR.2.2.1, hR.2.2.2, i0, iy⟩
  unfold m9
  simp only
  have e5 : r1 = r1.take 3 ++ (r1.drop 3).take 4 := by
    have e6 : (r1.drop 3).take 4 = r1.drop 3 := List.take_of_length_le (by rw [List.length_drop]; omega)
    rw [e6, List.take_append_drop]
  rw [e5, f2, f3]; rfl
/-- A history that came in. -/
theorem hist_in {H : Type} {enc : TypeId × Value → H} {W : World} {n : Nat} {c : Value} {x : DataW H × List MemPlace} (h : DataW.trod enc Try.prog W 0 (fun _ => true) true n 22 [c] = some x) (hx : Szd x.1 22) :
    ∃ hs : List Mo, HAt2 W c hs ∧ hs.length ≤ 1000000000000000000 ∧ ∀ m ∈ hs, m.R.r.vals.length ≤ 1000000000000000000 := by
  have hr := reach_is
  obtain ⟨l, hl, a, cp, e, hcp, hin⟩ := rows_sz under22 cells30 bytes30 (by omega) h hx
    (⟨⟨0, false, 0, 0, ⟨#[]⟩, rv0⟩, rv0_at W, by simp [rv0], by simp [rv0], by simp [rv0], by decide, by decide⟩ : {m : Mo // m.R.At W ∧ m.R.r.keys.length ≤ 17592186043904 ∧ m.R.r.vals.length ≤ 17592186043904 ∧ (∀ z ∈ m.R.r.keys, In64 z) ∧ In64 m.c ∧ In64 m.ky})
    (fun q cs => cs = m9 q.1)
    (fun n cs y hy hs => by
      obtain ⟨m, hcs, hm⟩ := mom_in hy hs
      exact ⟨⟨m, hm⟩, hcs⟩)
  have key : ∀ m ∈ l.map (·.1), m.R.At W ∧ m.R.r.keys.length ≤ 17592186043904 ∧ m.R.r.vals.length ≤ 17592186043904 ∧ (∀ z ∈ m.R.r.keys, In64 z) ∧ In64 m.c ∧ In64 m.ky := fun m hm => by
    obtain ⟨q, -, rfl⟩ := List.mem_map.1 hm
    exact q.2
  refine ⟨l.map (·.1), ⟨⟨a, cp, by simpa using e, fun hne => ?_, fun m hm => ?_⟩, fun m hm => ?_⟩, by rw [List.length_map]; omega, fun m hm => ?_⟩
  · obtain ⟨k, o, rfl, hk, hc⟩ := hin (fun e => hne (by rw [e]; rfl))
    refine ⟨k, o, rfl, fun i hi j hj => ?_⟩
    have hi' : i < l.length := by simpa using hi
    obtain ⟨cs, hcs, hcell⟩ := hc i hi'
    subst hcs
    rw [hcell j hj]; simp
  · obtain ⟨q1, q2, q3, q4, q5, q6⟩ := key m hm
    exact ⟨q1, by omega, q5⟩
  · obtain ⟨q1, q2, q3, q4, q5, q6⟩ := key m hm
    exact ⟨by omega, q6, q4⟩
  · obtain ⟨q1, q2, q3, q4, q5, q6⟩ := key m hm
    omega
end Go.Proofs.Ytihicdbplmdjiaa
