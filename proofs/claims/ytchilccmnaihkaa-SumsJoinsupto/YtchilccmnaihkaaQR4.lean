import Derived.Test.YtchilccmnaihkaaQJb
import Derived.Test.YtchilccmnaihkaaQRk
import Derived.JoinedCond
namespace Go.Proofs.Ytchilccmnaihkaa
open Go.ChangeShapes Go.WideShapes Go.ChangeAt Go.RowKit
set_option linter.unusedVariables false
set_option linter.unusedSimpArgs false

theorem under48 : Try.prog.underlying 48 = some (.slice 24) := by kernel_rfl
theorem bulk_pos {H : Type} (d : DataW H) : 1 ≤ Rows.uptoBulk d := by
  cases d with
  | lit l => cases l <;> simp [Rows.uptoBulk]
  | _ => simp [Rows.uptoBulk]

theorem bulk_len {H : Type} : ∀ (l : List (DataW H)), l.length ≤ Rows.uptoBulkAll l
  | [] => by simp
  | d :: r => by
    have h1 := bulk_pos d
    have h2 := bulk_len r
    simp only [Rows.uptoBulkAll, List.length_cons]
    omega
theorem bulk_mem {H : Type} : ∀ {l : List (DataW H)} {d : DataW H}, d ∈ l → Rows.uptoBulk d ≤ Rows.uptoBulkAll l
  | a :: r, d, h => by
    simp only [Rows.uptoBulkAll]
    rcases List.mem_cons.1 h with rfl | h
    · omega
    · have := bulk_mem h; omega

/-- How long a slice is that came in. -/
theorem slice_bulk {H : Type} {enc : TypeId × Value → H} {W : World} {n t e : Nat} {a : Option Addr} {len cap : Nat} {x : DataW H × List MemPlace} (ht : Try.prog.underlying t = some (.slice e)) (h : DataW.trod enc Try.prog W 0 (fun _ => true) true n t [.slice a len cap] = some x) : len ≤ Rows.uptoBulk x.1 := by
  rcases Deep.open_slice ht h with ⟨hcs, hx⟩ | ⟨a', len', cap', m, k, D, Pl, hcs, _, hl, hm, hmm, hx, hc⟩
  · simp at hcs
    omega
  · simp at hcs
    obtain ⟨rfl, rfl, rfl⟩ := hcs
    have h1 := bulk_len ((List.range len).map D)
    rw [hx]
    simp only [Rows.uptoBulk]
    simp only [List.length_map, List.length_range] at h1
    omega

/-- A shape with its numbers that came in, with its bulk. -/
theorem three_bk {H : Type} {enc : TypeId × Value → H} {W : World} {n : Nat} {cs : List Value} {x : DataW H × List MemPlace} (h : DataW.trod enc Try.prog W 0 (fun _ => true) true n 24 cs = some x) :
    ∃ (p r : Int) (av bv cv : Value) (la lb lc : List Int), cs = [vI p, vI r, av, bv, cv] ∧ IA W av la ∧ IA W bv lb ∧ IA W cv lc ∧ la.length ≤ Rows.uptoBulk x.1 ∧ lb.length ≤ Rows.uptoBulk x.1 := by
  obtain ⟨xs, k, -, rfl, hcl, hxl, hf⟩ := DataW.trod_struct under24 h
  rw [cells24] at hcl
  have hxl : xs.length = 5 := hxl
  obtain ⟨c0, r0, rfl, hl1⟩ := len_cons hcl
  obtain ⟨c1, r1, rfl, hl2⟩ := len_cons hl1
  obtain ⟨c2, r2, rfl, hl3⟩ := len_cons hl2
  obtain ⟨c3, r3, rfl, hl4⟩ := len_cons hl3
  obtain ⟨c4, r4, rfl, hl5⟩ := len_cons hl4
  obtain rfl := List.length_eq_zero_iff.1 hl5
  have g0 := hf 0 (fld "Params" 3 0 0) rfl
  have g1 := hf 1 (fld "Results" 3 1 8) rfl
  have g2 := hf 2 (fld "A" 22 2 16) rfl
  have g3 := hf 3 (fld "B" 22 3 40) rfl
  have g4 := hf 4 (fld "C" 22 4 64) rfl
  have e0 : xs[0]? = some (xs[0]'(by omega)) := List.getElem?_eq_getElem (by omega)
  have e1 : xs[1]? = some (xs[1]'(by omega)) := List.getElem?_eq_getElem (by omega)
  have e2 : xs[2]? = some (xs[2]'(by omega)) := List.getElem?_eq_getElem (by omega)
  have e3 : xs[3]? = some (xs[3]'(by omega)) := List.getElem?_eq_getElem (by omega)
  have e4 : xs[4]? = some (xs[4]'(by omega)) := List.getElem?_eq_getElem (by omega)
  rw [e0] at g0
  rw [e1] at g1
  rw [e2] at g2
  rw [e3] at g3
  rw [e4] at g4
  simp only [fld, cells3, cells22, List.drop_zero, List.drop_succ_cons, List.take_succ_cons, List.take_zero] at g0 g1 g2 g3 g4
  obtain ⟨z0, f0⟩ := ints_of g0
  obtain ⟨z1, f1⟩ := ints_of g1
  obtain ⟨la, hA, hAw⟩ := ia_of g2
  obtain ⟨lb, hB, hBw⟩ := ia_of g3
  obtain ⟨lc, hC, hCw⟩ := ia_of g4
  have f0 := (List.cons.inj f0).1
  have f1 := (List.cons.inj f1).1
  subst f0
  subst f1
  have b2 : Rows.uptoBulk (xs[2]'(by omega)).1 ≤ Rows.uptoBulk (DataW.agg (xs.map (·.1))) := by
    have := bulk_mem (l := xs.map (·.1)) (List.mem_map.2 ⟨xs[2]'(by omega), List.getElem_mem _, rfl⟩)
    simp only [Rows.uptoBulk]
    omega
  have b3 : Rows.uptoBulk (xs[3]'(by omega)).1 ≤ Rows.uptoBulk (DataW.agg (xs.map (·.1))) := by
    have := bulk_mem (l := xs.map (·.1)) (List.mem_map.2 ⟨xs[3]'(by omega), List.getElem_mem _, rfl⟩)
    simp only [Rows.uptoBulk]
    omega
  refine ⟨z0, z1, c2, c3, c4, la, lb, lc, rfl, hA, hB, hC, ?_, ?_⟩
  · obtain ⟨a, c, rfl, -⟩ := hA
    exact Nat.le_trans (slice_bulk under22i g2) b2
  · obtain ⟨a, c, rfl, -⟩ := hB
    exact Nat.le_trans (slice_bulk under22i g3) b3

/-- A slice that came in, element by element, within the reach. -/
theorem rows_bk {H : Type} {enc : TypeId × Value → H} {W : World} {n t e sz : Nat} {c : Value} {x : DataW H × List MemPlace} (ht : Try.prog.underlying t = some (.slice e)) (hsz : Try.prog.cellsOf e = sz) (hs0 : 0 < sz)
    (h : DataW.trod enc Try.prog W 0 (fun _ => true) true n t [c] = some x) (hx : Rows.uptoBulk x.1 ≤ 1048576) {α : Type} (dflt : α) (Pr : α → List Value → Prop)
    (hel : ∀ n cs (y : DataW H × List MemPlace), DataW.trod enc Try.prog W 0 (fun _ => true) true n e cs = some y → Rows.uptoBulk y.1 ≤ 1048576 → ∃ q, Pr q cs) :
    ∃ l : List α, l.length ≤ 1048576 ∧ ∃ a cp, c = .slice a l.length cp ∧ (l ≠ [] → ∃ k o, a = some ⟨k, o, none⟩ ∧ k < W.heap.size ∧ ∀ j (h : j < l.length), ∃ cs, Pr l[j] cs ∧ ∀ i, i < sz → W.cell? ⟨k, o + j * sz + i, none⟩ = cs[i]?) := by
  rcases Deep.open_slice ht h with ⟨hcs, hx⟩ | ⟨a, len, cap, m, k, D, Pl, hcs, _, hl, hm, hmm, hxx, hc⟩
  · have hcs := (List.cons.inj hcs).1
    subst hcs
    exact ⟨[], by simp, none, 0, rfl, fun h => absurd rfl h⟩
  · have hcs := (List.cons.inj hcs).1
    subst hcs
    have hmc : m = cap := by simpa using hmm
    subst hmc
    have hbk : Rows.uptoBulkAll ((List.range len).map D) ≤ 1048576 := by
      rw [hxx] at hx
      simp only [Rows.uptoBulk] at hx
      omega
    have hlw : len ≤ 1048576 := by
      have := bulk_len ((List.range len).map D)
      simp only [List.length_map, List.length_range] at this
      omega
    have hv : ∀ i, ∃ q : α × List Value, i < len → Pr q.1 q.2 ∧ q.2.length = sz ∧ ∀ j, j < sz → W.cell? ((a.add (i * sz)).add j) = q.2[j]? := by
      intro i
      by_cases hi : i < len
      · obtain ⟨cs', r0, r1⟩ := hc i (by omega)
        rw [hsz] at r0
        obtain ⟨-, hcl, hcell⟩ := World.cells?_some r0
        obtain ⟨q, hq⟩ := hel _ _ _ r1 (Nat.le_trans (bulk_mem (List.mem_map.2 ⟨i, List.mem_range.2 hi, rfl⟩)) hbk)
        exact ⟨(q, cs'), fun _ => ⟨hq, hcl, hcell⟩⟩
      · exact ⟨(dflt, []), fun h => absurd h hi⟩
    obtain ⟨Q, hQ⟩ : ∃ Q : Nat → α × List Value, ∀ i, i < len → Pr (Q i).1 (Q i).2 ∧ (Q i).2.length = sz ∧ ∀ j, j < sz → W.cell? ((a.add (i * sz)).add j) = (Q i).2[j]? :=
      ⟨fun i => (hv i).choose, fun i => (hv i).choose_spec⟩
    have hlen : ((List.range len).map fun i => (Q i).1).length = len := by simp
    refine ⟨(List.range len).map fun i => (Q i).1, by rw [hlen]; exact hlw, some a, m, by rw [hlen], fun hne => ?_⟩
    obtain ⟨b, off, spot⟩ := a
    have hpos : 0 < len := by
      rcases Nat.eq_zero_or_pos len with h0 | h0
      · exfalso; apply hne; rw [h0]; rfl
      · exact h0
    have h00 : W.cell? ((({ block := b, off := off, spot := spot } : Addr).add (0 * sz)).add 0) = some ((Q 0).2[0]'(by rw [(hQ 0 hpos).2.1]; exact hs0)) := by
      rw [(hQ 0 hpos).2.2 0 hs0]; exact List.getElem?_eq_getElem _
    have hspot : spot = none := by
      have := World.cell?_spot h00
      simpa [Addr.add] using this
    subst hspot
    simp only [addr_off] at hQ h00
    refine ⟨b, off, rfl, cell_lt h00, fun j hj => ?_⟩
    have hj' : j < len := by simpa using hj
    refine ⟨(Q j).2, ?_, (hQ j hj').2.2⟩
    have := (hQ j hj').1
    simpa using this


/-- Shapes that came in. -/
theorem th_bk {H : Type} {enc : TypeId × Value → H} {W : World} {n : Nat} {c : Value} {x : DataW H × List MemPlace} (h : DataW.trod enc Try.prog W 0 (fun _ => true) true n 48 [c] = some x) (hx : Rows.uptoBulk x.1 ≤ 1048576) :
    ∃ ts : List T3, ThA W c ts ∧ (∀ t ∈ ts, t.la.length ≤ 17592186043904 ∧ t.lb.length ≤ 17592186043904) ∧ ts.length ≤ 1048576 := by
  obtain ⟨l, hl, a, cp, e, hin⟩ := rows_bk under48 cells24 (by omega) h hx (⟨⟨0, 0, [], [], []⟩, .nilIface, .nilIface, .nilIface⟩ : T3 × Value × Value × Value)
    (fun q cs => cs = [vI q.1.p, vI q.1.r, q.2.1, q.2.2.1, q.2.2.2] ∧ IA W q.2.1 q.1.la ∧ IA W q.2.2.1 q.1.lb ∧ IA W q.2.2.2 q.1.lc ∧ q.1.la.length ≤ 17592186043904 ∧ q.1.lb.length ≤ 17592186043904)
    (fun n cs y hy hs => by
      obtain ⟨p, r, av, bv, cv, la, lb, lc, hcs, hA, hB, hC, hAw, hBw⟩ := three_bk hy
      exact ⟨(⟨p, r, la, lb, lc⟩, av, bv, cv), hcs, hA, hB, hC, Nat.le_trans hAw (Nat.le_trans hs (by decide)), Nat.le_trans hBw (Nat.le_trans hs (by decide))⟩)
  have hlen : (l.map (·.1)).length = l.length := by simp
  have hall : ∀ j (hj : j < l.length), l[j].1.la.length ≤ 17592186043904 ∧ l[j].1.lb.length ≤ 17592186043904 := fun j hj => by
    obtain ⟨k, o, -, -, hc⟩ := hin (by rintro rfl; simp at hj)
    obtain ⟨cs, ⟨-, -, -, -, q1, q2⟩, -⟩ := hc j hj
    exact ⟨q1, q2⟩
  refine ⟨l.map (·.1), ⟨a, cp, by rw [hlen]; exact e, fun hne => ?_⟩, fun t ht => ?_, by rw [hlen]; exact hl⟩
  · obtain ⟨k, o, rfl, hk, hc⟩ := hin (by rintro rfl; simp at hne)
    refine ⟨k, o, rfl, hk, fun j hj => ?_⟩
    have hj' : j < l.length := by simpa using hj
    obtain ⟨cs, ⟨hcs, hA, hB, hC, -, -⟩, hcell⟩ := hc j hj'
    have ej : (l.map (·.1))[j] = l[j].1 := by simp
    rw [ej]
    subst hcs
    exact ⟨_, _, _, hcell 0 (by omega), hcell 1 (by omega), hcell 2 (by omega), hcell 3 (by omega), hcell 4 (by omega), hA, hB, hC⟩
  · obtain ⟨j, hj, rfl⟩ := List.mem_iff_getElem.1 ht
    have hj' : j < l.length := by simpa using hj
    have ej : (l.map (·.1))[j] = l[j].1 := by simp
    rw [ej]
    exact hall j hj'

set_option maxRecDepth 100000 in
theorem sumsJoins_lifted (os : _root_.Go.Os) (started : os.Started) (H : Type) (enc : TypeId × Value → H) (F : Stop.Interp) :
    ReturnsInHanded {} Try.checked os 6 .any ((Rows.OpenSpec.upto Rows.sumsJoinsSpec).pre6 enc Try.prog Try.f6 Rows.sumsJoinsUptoRow.domain false) (((Rows.OpenSpec.upto Rows.sumsJoinsSpec).at F).post enc Try.prog Try.f6 false true false false) := by
  refine returnsInHanded_of_cond (C := Try.checked) (s := Rows.OpenSpec.upto Rows.sumsJoinsSpec) (k := Rows.uptoSmall) rfl knob started (by kernel_rfl) Try.func6
    (OpenSpec.witness (enc := enc) (C := Try.checked) (s := Rows.OpenSpec.upto Rows.sumsJoinsSpec) (k := Rows.uptoSmall) rfl false ⟨#[], #[.slice none 0 0, .slice none 0 0], []⟩ 8 (by kernel_rfl) (by kernel_rfl) (by kernel_rfl)
      (x := ([.nil, .nil], [], [])) (by kernel_rfl) rfl (by kernel_rfl)) ?_
  intro W base args ds gs before hval0 hW hcnd hk _
  have hval : ∀ (j : Nat) t v, Try.f6.params[j]? = some t → args[j]? = some v → Value.okWide Try.prog W .any base t v := hval0
  have hW' := hW
  obtain ⟨p, q, hA0, hV, rfl, hfz, hnd⟩ := hW
  have hA : DataW.TrodAll enc Try.prog W 0 (fun _ => true) true Try.f6.params.toList args.toList ds p := hA0
  rw [Try.params6] at hA hval
  obtain ⟨v0, vs0, d0, ds0, p0, q0, hargs, rfl, rfl, t0, r0⟩ := trodAll_cons hA
  obtain ⟨v1, vs1, d1, ds1, p1, q1, rfl, rfl, rfl, t1, r1⟩ := trodAll_cons r0
  obtain ⟨rfl, rfl, rfl⟩ := trodAll_nil r1
  obtain rfl : args = #[v0, v1] := by cases args; simp_all
  obtain ⟨rfl, rfl⟩ := trodVars_none hV
  obtain ⟨a0, len0, cap0, rfl⟩ := okWide_slice under48 (hval 0 48 v0 rfl rfl)
  obtain ⟨a1, len1, cap1, rfl⟩ := okWide_slice under48 (hval 1 48 v1 rfl rfl)
  have lt0 : ∀ x ∈ p0, x.block < W.heap.size := by obtain ⟨m, hm⟩ := t0; exact DataW.trod_lt m _ _ _ hm
  have lt1 : ∀ x ∈ p1, x.block < W.heap.size := by obtain ⟨m, hm⟩ := t1; exact DataW.trod_lt m _ _ _ hm
  have hbk := of_decide_eq_true hk
  simp only [List.append_nil, Rows.uptoBulkAll] at hbk
  obtain ⟨ts, hTh, hTf, hTl⟩ : ∃ ts : List T3, ThA W (.slice a0 len0 cap0) ts ∧ (∀ t ∈ ts, t.la.length ≤ 17592186043904 ∧ t.lb.length ≤ 17592186043904) ∧ ts.length ≤ 1048576 := by
    obtain ⟨m, hm⟩ := t0
    exact th_bk hm (by show Rows.uptoBulk d0 ≤ 1048576; omega)
  obtain ⟨tz, hTh2, hTf2, hTl2⟩ : ∃ ts : List T3, ThA W (.slice a1 len1 cap1) ts ∧ (∀ t ∈ ts, t.la.length ≤ 17592186043904 ∧ t.lb.length ≤ 17592186043904) ∧ ts.length ≤ 1048576 := by
    obtain ⟨m, hm⟩ := t1
    exact th_bk hm (by show Rows.uptoBulk d1 ≤ 1048576; omega)
  clear hA0
  refine (joins_any _ _ ts tz W hTh hTh2 (fun t ht => (hTf t ht).1) (fun t ht => (hTf2 t ht).2) (by omega)).mono fun e W' ⟨he, hf⟩ => ?_
  subst he
  have bel := fr_below hf
  exact ⟨_, rfl, _, _, _, [], _, [], hW', trodAll_mk1 (shut_bool under4 _), (trodAll_cons_mk (Below.trod laysOut (by kernel_rfl) (of_decide_eq_true (by kernel_rfl)) t0 bel lt0) (trodAll_cons_mk (Below.trod laysOut (by kernel_rfl) (of_decide_eq_true (by kernel_rfl)) t1 bel lt1) trodAll_mk0)), rfl, bel.frame _, fun h => by cases h⟩

/-- SumsJoins, up to its bulk. -/
theorem sumsJoins_said : Rows.SumsJoinsUptoSaid :=
  OpenClaim.holds_of_cond 6 Try.f6 rfl rfl rfl rfl rfl rfl rfl ⟨rfl, rfl, rfl, rfl, rfl⟩ rfl rfl rfl rfl rfl (by kernel_rfl) Try.func6 (by kernel_rfl)
    (of_decide_eq_true (by kernel_rfl)) (by unfold Func.isWrapper; first | (rw [if_pos (by decide +kernel)]; kernel_rfl) | (rw [if_neg (by decide +kernel)]; exact ⟨rfl, rfl⟩))
    (fun os started H enc _ F => sumsJoins_lifted os started H enc F)

end Go.Proofs.Ytchilccmnaihkaa
