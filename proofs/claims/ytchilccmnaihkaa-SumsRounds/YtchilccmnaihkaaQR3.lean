import Derived.Test.YtchilccmnaihkaaQDa
import Derived.Test.YtchilccmnaihkaaQRk
namespace Go.Proofs.Ytchilccmnaihkaa
open Go.ChangeShapes Go.WideShapes Go.ChangeAt Go.RowKit
set_option linter.unusedVariables false
set_option linter.unusedSimpArgs false

theorem under5 : Try.prog.underlying 5 = some (.int .u8) := by kernel_rfl
theorem under48 : Try.prog.underlying 48 = some (.slice 24) := by kernel_rfl
theorem bytes24 : Try.prog.bytesOf 24 = 88 := by kernel_rfl
theorem bytes22 : Try.prog.bytesOf 22 = 24 := by kernel_rfl
/-- All that came in lies within the reach. -/
def Szd {H : Type} (d : DataW H) (t : Nat) : Prop := ∀ q ∈ d.weights Try.prog t, q ≤ reachBytes
theorem weightsAll_mem {H : Type} {P : Program} {e : TypeId} {d : DataW H} {n : Nat} (hn : n ∈ d.weights P e) : ∀ {ds : List (DataW H)}, d ∈ ds → n ∈ DataW.weightsAll P e ds
  | a :: r, h => by
    simp only [DataW.weightsAll, List.mem_append]
    rcases List.mem_cons.1 h with rfl | h
    · exact Or.inl hn
    · exact Or.inr (weightsAll_mem hn h)
/-- A slice that came in, element by element, within the reach. -/
theorem rows_sz {H : Type} {enc : TypeId × Value → H} {W : World} {n t e sz by' : Nat} {c : Value} {x : DataW H × List MemPlace} (ht : Try.prog.underlying t = some (.slice e)) (hsz : Try.prog.cellsOf e = sz) (hby : Try.prog.bytesOf e = by') (hs0 : 0 < sz)
    (h : DataW.trod enc Try.prog W 0 (fun _ => true) true n t [c] = some x) (hx : Szd x.1 t) {α : Type} (dflt : α) (Pr : α → List Value → Prop)
    (hel : ∀ n cs (y : DataW H × List MemPlace), DataW.trod enc Try.prog W 0 (fun _ => true) true n e cs = some y → Szd y.1 e → ∃ q, Pr q cs) :
    ∃ l : List α, l.length * by' ≤ reachBytes ∧ ∃ a cp, c = .slice a l.length cp ∧ (l ≠ [] → ∃ k o, a = some ⟨k, o, none⟩ ∧ k < W.heap.size ∧ ∀ j (h : j < l.length), ∃ cs, Pr l[j] cs ∧ ∀ i, i < sz → W.cell? ⟨k, o + j * sz + i, none⟩ = cs[i]?) := by
  rcases Deep.open_slice ht h with ⟨hcs, hx⟩ | ⟨a, len, cap, m, k, D, Pl, hcs, _, hl, hm, hmm, hxx, hc⟩
  · have hcs := (List.cons.inj hcs).1
    subst hcs
    exact ⟨[], by simp, none, 0, rfl, fun h => absurd rfl h⟩
  · have hcs := (List.cons.inj hcs).1
    subst hcs
    have hmc : m = cap := by simpa using hmm
    subst hmc
    have hw : ∀ q, q ∈ (((((List.range len).map D).length + ((List.range (m - len)).map fun j => D (len + j)).length) * by') :: DataW.weightsAll Try.prog e ((List.range len).map D)) → q ≤ reachBytes := by
      intro q hq
      apply hx
      rw [hxx]
      simp only [DataW.weights, ht, hby]
      rcases List.mem_cons.1 hq with rfl | hq
      · exact List.mem_cons_self
      · exact List.mem_cons_of_mem _ (List.mem_append_left _ hq)
    have hlw : len * by' ≤ reachBytes := by
      have := hw _ List.mem_cons_self
      simp only [List.length_map, List.length_range] at this
      exact Nat.le_trans (Nat.mul_le_mul_right by' (by omega)) this
    have hv : ∀ i, ∃ q : α × List Value, i < len → Pr q.1 q.2 ∧ q.2.length = sz ∧ ∀ j, j < sz → W.cell? ((a.add (i * sz)).add j) = q.2[j]? := by
      intro i
      by_cases hi : i < len
      · obtain ⟨cs', r0, r1⟩ := hc i (by omega)
        rw [hsz] at r0
        obtain ⟨-, hcl, hcell⟩ := World.cells?_some r0
        obtain ⟨q, hq⟩ := hel _ _ _ r1 (fun q hq => hw q (List.mem_cons_of_mem _ (weightsAll_mem hq (List.mem_map.2 ⟨i, List.mem_range.2 hi, rfl⟩))))
        exact ⟨(q, cs'), fun _ => ⟨hq, hcl, hcell⟩⟩
      · exact ⟨(dflt, []), fun h => absurd h hi⟩
    obtain ⟨Q, hQ⟩ : ∃ Q : Nat → α × List Value, ∀ i, i < len → Pr (Q i).1 (Q i).2 ∧ (Q i).2.length = sz ∧ ∀ j, j < sz → W.cell? ((a.add (i * sz)).add j) = (Q i).2[j]? :=
      ⟨fun i => (hv i).choose, fun i => (hv i).choose_spec⟩
    have hlen : ((List.range len).map fun i => (Q i).1).length = len := by simp
    refine ⟨(List.range len).map fun i => (Q i).1, by rw [hlen]; exact hlw, some a, m, by rw [hlen], fun hne => ?_⟩
    obtain ⟨b, off, spot⟩ := a
    have hpos : 0 < len := by
      rcases Nat.eq_zero_or_pos len with h0 | h0
      · exfalso; apply hne; rw [h0]; rfl
      · exact h0
    have h00 : W.cell? ((({ block := b, off := off, spot := spot } : Addr).add (0 * sz)).add 0) = some ((Q 0).2[0]'(by rw [(hQ 0 hpos).2.1]; exact hs0)) := by
      rw [(hQ 0 hpos).2.2 0 hs0]; exact List.getElem?_eq_getElem _
    have hspot : spot = none := by
      have := World.cell?_spot h00
      simpa [Addr.add] using this
    subst hspot
    simp only [addr_off] at hQ h00
    refine ⟨b, off, rfl, cell_lt h00, fun j hj => ?_⟩
    have hj' : j < len := by simpa using hj
    refine ⟨(Q j).2, ?_, (hQ j hj').2.2⟩
    have := (hQ j hj').1
    simpa using this


/-- Shapes that came in. -/
theorem th_in {H : Type} {enc : TypeId × Value → H} {W : World} {n : Nat} {c : Value} {x : DataW H × List MemPlace} (h : DataW.trod enc Try.prog W 0 (fun _ => true) true n 48 [c] = some x) (hx : Szd x.1 48) :
    ∃ ts : List T3, ThA W c ts ∧ (∀ t ∈ ts, t.la.length ≤ 17592186043904 ∧ t.lb.length ≤ 17592186043904) ∧ ts.length ≤ 1600000000000 := by
  have hr := reach_is
  obtain ⟨l, hl, a, cp, e, hin⟩ := rows_sz under48 cells24 bytes24 (by omega) h hx (⟨⟨0, 0, [], [], []⟩, .nilIface, .nilIface, .nilIface⟩ : T3 × Value × Value × Value)
    (fun q cs => cs = [vI q.1.p, vI q.1.r, q.2.1, q.2.2.1, q.2.2.2] ∧ IA W q.2.1 q.1.la ∧ IA W q.2.2.1 q.1.lb ∧ IA W q.2.2.2 q.1.lc ∧ q.1.la.length ≤ 17592186043904 ∧ q.1.lb.length ≤ 17592186043904)
    (fun n cs y hy hs => by
      obtain ⟨p, r, av, bv, cv, la, lb, lc, hcs, hA, hB, hC, hAw, hBw, hCw⟩ := three_of hy
      have bd : ∀ l : List Int, (l = [] ∨ ∃ q ∈ y.1.weights Try.prog 24, l.length * 8 ≤ q) → l.length ≤ 17592186043904 := fun l hl => by
        rcases hl with rfl | ⟨q, hq, hle⟩
        · simp
        · have := hs q hq
          omega
      exact ⟨(⟨p, r, la, lb, lc⟩, av, bv, cv), hcs, hA, hB, hC, bd _ hAw, bd _ hBw⟩)
  have hlen : (l.map (·.1)).length = l.length := by simp
  have hall : ∀ j (hj : j < l.length), l[j].1.la.length ≤ 17592186043904 ∧ l[j].1.lb.length ≤ 17592186043904 := fun j hj => by
    obtain ⟨k, o, -, -, hc⟩ := hin (by rintro rfl; simp at hj)
    obtain ⟨cs, ⟨-, -, -, -, q1, q2⟩, -⟩ := hc j hj
    exact ⟨q1, q2⟩
  refine ⟨l.map (·.1), ⟨a, cp, by rw [hlen]; exact e, fun hne => ?_⟩, fun t ht => ?_, by rw [hlen]; omega⟩
  · obtain ⟨k, o, rfl, hk, hc⟩ := hin (by rintro rfl; simp at hne)
    refine ⟨k, o, rfl, hk, fun j hj => ?_⟩
    have hj' : j < l.length := by simpa using hj
    obtain ⟨cs, ⟨hcs, hA, hB, hC, -, -⟩, hcell⟩ := hc j hj'
    have ej : (l.map (·.1))[j] = l[j].1 := by simp
    rw [ej]
    subst hcs
    exact ⟨_, _, _, hcell 0 (by omega), hcell 1 (by omega), hcell 2 (by omega), hcell 3 (by omega), hcell 4 (by omega), hA, hB, hC⟩
  · obtain ⟨j, hj, rfl⟩ := List.mem_iff_getElem.1 ht
    have hj' : j < l.length := by simpa using hj
    have ej : (l.map (·.1))[j] = l[j].1 := by simp
    rw [ej]
    exact hall j hj'

set_option maxRecDepth 100000 in
theorem sumsRounds_lifted (os : Os) (started : os.Started) (H : Type) (enc : TypeId × Value → H) :
    ReturnsInHanded {} Try.checked os 5 .any (Rows.sumsRoundsSpec.pre6 enc Try.prog Try.f5 Rows.sumsRoundsRow.domain false) (Rows.sumsRoundsSpec.post enc Try.prog Try.f5 false true false false) := by
  refine returnsInHanded_of_change_sized (C := Try.checked) knob started (by kernel_rfl) Try.func5
    (ChangeSpec.witness6 (enc := enc) (C := Try.checked) false ⟨#[], #[.slice none 0 0, .int .i64 0, .int .u8 0], []⟩ 8 (by kernel_rfl) (by kernel_rfl) (by kernel_rfl) (by kernel_rfl)) ?_
  intro W base args ds gs before hval0 hW hcnd hsz _
  have hval : ∀ (j : Nat) t v, Try.f5.params[j]? = some t → args[j]? = some v → Value.okWide Try.prog W .any base t v := hval0
  have hW' := hW
  obtain ⟨p, q, hA0, hV, rfl, hfz, hnd⟩ := hW
  have hA : DataW.TrodAll enc Try.prog W 0 (fun _ => true) true Try.f5.params.toList args.toList ds p := hA0
  rw [Try.params5] at hA hval hsz
  obtain ⟨v0, vs0, d0, ds0, p0, q0, hargs, rfl, rfl, t0, r0⟩ := trodAll_cons hA
  obtain ⟨v1, vs1, d1, ds1, p1, q1, rfl, rfl, rfl, t1, r1⟩ := trodAll_cons r0
  obtain ⟨v2, vs2, d2, ds2, p2, q2, rfl, rfl, rfl, t2, r2⟩ := trodAll_cons r1
  obtain ⟨rfl, rfl, rfl⟩ := trodAll_nil r2
  obtain rfl : args = #[v0, v1, v2] := by cases args; simp_all
  obtain ⟨rfl, rfl⟩ := trodVars_none hV
  have lt0 : ∀ x ∈ p0, x.block < W.heap.size := by obtain ⟨m, hm⟩ := t0; exact DataW.trod_lt m _ _ _ hm
  have lt1 : ∀ x ∈ p1, x.block < W.heap.size := by obtain ⟨m, hm⟩ := t1; exact DataW.trod_lt m _ _ _ hm
  have lt2 : ∀ x ∈ p2, x.block < W.heap.size := by obtain ⟨m, hm⟩ := t2; exact DataW.trod_lt m _ _ _ hm
  obtain ⟨ts, hTh, hTf, hTl⟩ : ∃ ts : List T3, ThA W v0 ts ∧ (∀ t ∈ ts, t.la.length ≤ 17592186043904 ∧ t.lb.length ≤ 17592186043904) ∧ ts.length ≤ 1600000000000 := by
    obtain ⟨sa, sn, sc, rfl⟩ := okWide_slice under48 (hval 0 48 v0 rfl rfl)
    obtain ⟨m, hm⟩ := t0
    exact th_in hm (fun q hq => by
      have := List.all_eq_true.1 hsz q (DataW.weights_mem_each (j := 0) (t := 48) (d := d0) rfl rfl q hq)
      simpa using this)
  obtain ⟨n1, rfl⟩ := okWide_int under3 (hval 1 3 v1 rfl rfl)
  have hv2 := hval 2 5 v2 rfl rfl
  obtain ⟨n2, rfl⟩ := okWide_int under5 hv2
  have hn2 : 0 ≤ n2 ∧ n2 ≤ 255 := by
    obtain ⟨m, hm⟩ := t2
    obtain ⟨z, ez, -, hw⟩ := DataW.trod_int under5 hm
    have e : n2 = z := by simpa [Value.cells] using ez
    subst e
    have h1 : decide ((0 : Int) ≤ n2) && decide (n2 ≤ (255 : Int)) := hw
    simpa using h1
  clear hA0
  refine (rounds_any v0 ts n1 n2 W hTh (fun t ht => (hTf t ht).1) hTl hn2.1 hn2.2).mono fun e W' ⟨he, hf⟩ => ?_
  subst he
  have bel := fr_below hf
  exact ⟨_, rfl, _, _, _, [], _, [], hW', trodAll_mk1 (shut_bool under4 _), (trodAll_cons_mk (Below.trod laysOut (by kernel_rfl) (of_decide_eq_true (by kernel_rfl)) t0 bel lt0) (trodAll_cons_mk (Below.trod laysOut (by kernel_rfl) (of_decide_eq_true (by kernel_rfl)) t1 bel lt1) (trodAll_cons_mk (Below.trod laysOut (by kernel_rfl) (of_decide_eq_true (by kernel_rfl)) t2 bel lt2) trodAll_mk0))), rfl, bel.frame _, fun h => by cases h⟩

/-- SumsRounds. -/
theorem sumsRounds_said : Rows.SumsRoundsSaid :=
  OpenClaim.holds_of_wide 5 Try.f5 rfl rfl rfl rfl rfl rfl rfl ⟨rfl, rfl, rfl, rfl, rfl⟩ rfl rfl rfl rfl rfl (by kernel_rfl) Try.func5 (by kernel_rfl)
    (of_decide_eq_true (by kernel_rfl)) (by unfold Func.isWrapper; first | (rw [if_pos (by decide +kernel)]; kernel_rfl) | (rw [if_neg (by decide +kernel)]; exact ⟨rfl, rfl⟩))
    (fun os started H enc _ => sumsRounds_lifted os started H enc)

end Go.Proofs.Ytchilccmnaihkaa
