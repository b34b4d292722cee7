import Derived.Test.YtihicdbplmdjiaaGreatQH6J
import Derived.Test.YtihicdbplmdjiaaGreatQPlChJ
set_option linter.unusedVariables false
set_option linter.unusedSimpArgs false
namespace Go.Proofs.YtihicdbplmdjiaaGreat.Pl
open Go.ChangeShapes Go.WideShapes Go.ChangeAt Go.RowKit

theorem under34 : Tryz.prog.underlying 22 = some (.slice 25) := by kernel_rfl
theorem under48 : Tryz.prog.underlying 25 = some (.slice 28) := by kernel_rfl
theorem cells48 : Tryz.prog.cellsOf 25 = 1 := by kernel_rfl
theorem bytes23 : Tryz.prog.bytesOf 28 = 32 := by kernel_rfl
theorem bytes48 : Tryz.prog.bytesOf 25 = 24 := by kernel_rfl
theorem bytes3 : Tryz.prog.bytesOf 3 = 8 := by kernel_rfl
theorem addr_off (b off i : Nat) : (⟨b, off, none⟩ : Addr).add i = ⟨b, off + i, none⟩ := by unfold Addr.add; split <;> simp_all
theorem cell_lt {w : World} {k o : Nat} {u : Value} (h : w.cell? ⟨k, o, none⟩ = some u) : k < w.heap.size := by
  unfold World.cell? at h
  rcases Nat.lt_or_ge k w.heap.size with hk | hk
  · exact hk
  · simp [Array.getElem?_eq_none hk] at h
/-- All that came in lies within the reach. -/
def Szd {H : Type} (d : DataW H) (t : Nat) : Prop := ∀ q ∈ d.weights Tryz.prog t, q ≤ reachBytes
theorem weightsAll_mem {H : Type} {P : Program} {e : TypeId} {d : DataW H} {n : Nat} (hn : n ∈ d.weights P e) : ∀ {ds : List (DataW H)}, d ∈ ds → n ∈ DataW.weightsAll P e ds
  | a :: r, h => by
    simp only [DataW.weightsAll, List.mem_append]
    rcases List.mem_cons.1 h with rfl | h
    · exact Or.inl hn
    · exact Or.inr (weightsAll_mem hn h)
/-- A slice that came in, element by element, within the reach. -/
theorem rows_sz {H : Type} {enc : TypeId × Value → H} {W : World} {n t e sz by' : Nat} {c : Value} {x : DataW H × List MemPlace} (ht : Tryz.prog.underlying t = some (.slice e)) (hsz : Tryz.prog.cellsOf e = sz) (hby : Tryz.prog.bytesOf e = by') (hs0 : 0 < sz)
    (h : DataW.trod enc Tryz.prog W 0 (fun _ => true) true n t [c] = some x) (hx : Szd x.1 t) {α : Type} (dflt : α) (Pr : α → List Value → Prop)
    (hel : ∀ n cs (y : DataW H × List MemPlace), DataW.trod enc Tryz.prog W 0 (fun _ => true) true n e cs = some y → Szd y.1 e → ∃ q, Pr q cs) :
    ∃ l : List α, l.length * by' ≤ reachBytes ∧ ∃ a cp, c = .slice a l.length cp ∧ l.length ≤ cp ∧ (l ≠ [] → ∃ k o, a = some ⟨k, o, none⟩ ∧ k < W.heap.size ∧ ∀ j (h : j < l.length), ∃ cs, Pr l[j] cs ∧ ∀ i, i < sz → W.cell? ⟨k, o + j * sz + i, none⟩ = cs[i]?) := by
  rcases Deep.open_slice ht h with ⟨hcs, hx⟩ | ⟨a, len, cap, m, k, D, Pl, hcs, _, hl, hm, hmm, hxx, hc⟩
  · have hcs := (List.cons.inj hcs).1
    subst hcs
    exact ⟨[], by simp, none, 0, rfl, by simp, fun h => absurd rfl h⟩
  · have hcs := (List.cons.inj hcs).1
    subst hcs
    have hmc : m = cap := by simpa using hmm
    subst hmc
    have hw : ∀ q, q ∈ (((((List.range len).map D).length + ((List.range (m - len)).map fun j => D (len + j)).length) * by') :: DataW.weightsAll Tryz.prog e ((List.range len).map D)) → q ≤ reachBytes := by
      intro q hq
      apply hx
      rw [hxx]
      simp only [DataW.weights, ht, hby]
      rcases List.mem_cons.1 hq with rfl | hq
      · exact List.mem_cons_self
      · exact List.mem_cons_of_mem _ (List.mem_append_left _ hq)
    have hlw : len * by' ≤ reachBytes := by
      have := hw _ List.mem_cons_self
      simp only [List.length_map, List.length_range] at this
      exact Nat.le_trans (Nat.mul_le_mul_right by' (by omega)) this
    have hv : ∀ i, ∃ q : α × List Value, i < len → Pr q.1 q.2 ∧ q.2.length = sz ∧ ∀ j, j < sz → W.cell? ((a.add (i * sz)).add j) = q.2[j]? := by
      intro i
      by_cases hi : i < len
      · obtain ⟨cs', r0, r1⟩ := hc i (by omega)
        rw [hsz] at r0
        obtain ⟨-, hcl, hcell⟩ := World.cells?_some r0
        obtain ⟨q, hq⟩ := hel _ _ _ r1 (fun q hq => hw q (List.mem_cons_of_mem _ (weightsAll_mem hq (List.mem_map.2 ⟨i, List.mem_range.2 hi, rfl⟩))))
        exact ⟨(q, cs'), fun _ => ⟨hq, hcl, hcell⟩⟩
      · exact ⟨(dflt, []), fun h => absurd h hi⟩
    obtain ⟨Q, hQ⟩ : ∃ Q : Nat → α × List Value, ∀ i, i < len → Pr (Q i).1 (Q i).2 ∧ (Q i).2.length = sz ∧ ∀ j, j < sz → W.cell? ((a.add (i * sz)).add j) = (Q i).2[j]? :=
      ⟨fun i => (hv i).choose, fun i => (hv i).choose_spec⟩
    have hlen : ((List.range len).map fun i => (Q i).1).length = len := by simp
    refine ⟨(List.range len).map fun i => (Q i).1, by rw [hlen]; exact hlw, some a, m, by rw [hlen], by rw [hlen]; omega, fun hne => ?_⟩
    obtain ⟨b, off, spot⟩ := a
    have hpos : 0 < len := by
      rcases Nat.eq_zero_or_pos len with h0 | h0
      · exfalso; apply hne; rw [h0]; rfl
      · exact h0
    have h00 : W.cell? ((({ block := b, off := off, spot := spot } : Addr).add (0 * sz)).add 0) = some ((Q 0).2[0]'(by rw [(hQ 0 hpos).2.1]; exact hs0)) := by
      rw [(hQ 0 hpos).2.2 0 hs0]; exact List.getElem?_eq_getElem _
    have hspot : spot = none := by
      have := World.cell?_spot h00
      simpa [Addr.add] using this
    subst hspot
    simp only [addr_off] at hQ h00
    refine ⟨b, off, rfl, cell_lt h00, fun j hj => ?_⟩
    have hj' : j < len := by simpa using hj
    refine ⟨(Q j).2, ?_, (hQ j hj').2.2⟩
    have := (hQ j hj').1
    simpa using this



/-- Operations that came in. -/
theorem ops_in {H : Type} {enc : TypeId × Value → H} {W : World} {n : Nat} {c : Value} {x : DataW H × List MemPlace} (h : DataW.trod enc Tryz.prog W 0 (fun _ => true) true n 25 [c] = some x) (hx : Szd x.1 25) :
    ∃ ops : List OpT, OpsAt W W.heap.size c ops ∧ ops.length ≤ 20000000000000 ∧ ∀ o ∈ ops, In64 o.2.1 := by
  have hr := reach_is
  obtain ⟨l, hl, a, cp, e, hcp, hin⟩ := rows_sz under48 cells23 bytes23 (by omega) h hx ((0, 0, ⟨#[]⟩) : OpT)
    (fun q cs => cs = [vI q.1, vI q.2.1, .string q.2.2] ∧ In64 q.2.1)
    (fun n cs y hy hs => by
      obtain ⟨kd, ky, s, hcs, -, h2, -⟩ := op_of hy
      exact ⟨(kd, ky, s), hcs, h2⟩)
  refine ⟨l, ⟨a, cp, e, hcp, fun hne => ?_⟩, by omega, fun o ho => ?_⟩
  · obtain ⟨k, o, rfl, hk, hc⟩ := hin hne
    refine ⟨k, o, rfl, hk, fun j hj => ?_⟩
    obtain ⟨cs, ⟨hcs, -⟩, hcell⟩ := hc j hj
    subst hcs
    exact ⟨hcell 0 (by omega), hcell 1 (by omega), hcell 2 (by omega)⟩
  · obtain ⟨j, hj, rfl⟩ := List.mem_iff_getElem.1 ho
    obtain ⟨k, o, -, -, hc⟩ := hin (by rintro rfl; simp at hj)
    obtain ⟨cs, ⟨-, q⟩, -⟩ := hc j hj
    exact q
/-- Clients that came in. -/
theorem cls_in {H : Type} {enc : TypeId × Value → H} {W : World} {n : Nat} {c : Value} {x : DataW H × List MemPlace} (h : DataW.trod enc Tryz.prog W 0 (fun _ => true) true n 22 [c] = some x) (hx : Szd x.1 22) :
    ∃ cl : List (List OpT), ClsAt W W.heap.size c cl ∧ cl.length ≤ 20000000000000 ∧ (∀ l ∈ cl, l.length ≤ 20000000000000) ∧ ∀ l ∈ cl, ∀ o ∈ l, In64 o.2.1 := by
  have hr := reach_is
  obtain ⟨l, hl, a, cp, e, hcp, hin⟩ := rows_sz under34 cells48 bytes48 (by omega) h hx ([] : List OpT)
    (fun q cs => ∃ u, cs = [u] ∧ OpsAt W W.heap.size u q ∧ q.length ≤ 20000000000000 ∧ ∀ o ∈ q, In64 o.2.1)
    (fun n cs y hy hs => by
      obtain ⟨u, rfl⟩ : ∃ u, cs = [u] := by
        rcases Deep.open_slice under48 hy with ⟨hcs, -⟩ | ⟨a, len, cap, m, k, D, Pl, hcs, -⟩ <;> exact ⟨_, hcs⟩
      obtain ⟨ops, h1, h2, h3⟩ := ops_in hy hs
      exact ⟨ops, u, rfl, h1, h2, h3⟩)
  have hall : ∀ q ∈ l, q.length ≤ 20000000000000 ∧ ∀ o ∈ q, In64 o.2.1 := fun q hq => by
    obtain ⟨j, hj, rfl⟩ := List.mem_iff_getElem.1 hq
    obtain ⟨k, o, -, -, hc⟩ := hin (by rintro rfl; simp at hj)
    obtain ⟨cs, ⟨u, -, -, q2⟩, -⟩ := hc j hj
    exact q2
  refine ⟨l, ⟨a, cp, e, fun hne => ?_⟩, by omega, fun q hq => (hall q hq).1, fun q hq => (hall q hq).2⟩
  obtain ⟨k, o, rfl, hk, hc⟩ := hin hne
  refine ⟨k, o, rfl, hk, fun j hj => ?_⟩
  obtain ⟨cs, ⟨u, hcs, hO, -⟩, hcell⟩ := hc j hj
  subst hcs
  have := hcell 0 (by omega)
  rw [Nat.mul_one, Nat.add_zero] at this
  exact ⟨u, this, hO⟩
/-- Numbers that came in. -/
theorem script_in {H : Type} {enc : TypeId × Value → H} {W : World} {n : Nat} {c : Value} {x : DataW H × List MemPlace} (h : DataW.trod enc Tryz.prog W 0 (fun _ => true) true n 23 [c] = some x) (hx : Szd x.1 23) :
    ∃ zs : List Int, IntsAt W W.heap.size c zs ∧ zs.length ≤ 20000000000000 := by
  have hr := reach_is
  obtain ⟨l, hl, a, cp, e, hcp, hin⟩ := rows_sz under27 cells3 bytes3 (by omega) h hx (0 : Int)
    (fun q cs => cs = [vI q])
    (fun n cs y hy hs => by
      obtain ⟨z, hcs, -⟩ := ints_of hy
      exact ⟨z, hcs⟩)
  refine ⟨l, ⟨a, cp, e, fun hne => ?_⟩, by omega⟩
  obtain ⟨k, o, rfl, hk, hc⟩ := hin hne
  refine ⟨k, o, rfl, hk, fun j hj => ?_⟩
  obtain ⟨cs, hcs, hcell⟩ := hc j hj
  subst hcs
  have := hcell 0 (by omega)
  rw [Nat.mul_one, Nat.add_zero] at this
  exact this
end Go.Proofs.YtihicdbplmdjiaaGreat.Pl
