import Derived.Test.YtlmlmhinbkcpoaaGreatDoorQGf
import Derived.Test.YtlmlmhinbkcpoaaGreatDoorRows
import Derived.ProofKit
import Derived.OpenShut
import Derived.ChangeOld
import Derived.Below
import Derived.Carry
import Derived.Deep.Slices
import Derived.SizedLaws
import Derived.JoinedCond
import Derived.Test.YtlmlmhinbkcpoaaGreatDoorCards
import Derived.Test.YtlmlmhinbkcpoaaGreatDoorTie
import Derived.Deep.DeepHandedRow
import Derived.Lib.LaidTab
namespace Go.Proofs.YtlmlmhinbkcpoaaGreatDoor
open Go.ChangeShapes Go.WideShapes Go.ChangeAt Go.RowKit
set_option linter.unusedVariables false
set_option linter.unusedSimpArgs false
theorem addr_off (b off i : Nat) : (⟨b, off, none⟩ : Addr).add i = ⟨b, off + i, none⟩ := by unfold Addr.add; split <;> simp_all
def fld (name : String) (type offset byteOffset : Nat) : Field := { name := name, type := type, offset := offset, embedded := false, tag := "", pkgPath := "", byteOffset := byteOffset }
theorem und3 : Tryz.prog.underlying 3 = some (.int .i64) := by kernel_rfl
theorem und71 : Tryz.prog.underlying 48 = some (.struct #[fld "Op" 3 0 0, fld "R" 3 1 8, fld "S" 3 2 16, fld "T" 3 3 24, fld "N" 3 4 32, fld "Args" 40 5 40, fld "Rets" 40 6 64]) := by kernel_rfl
theorem und67 : Tryz.prog.underlying 46 = some (.struct #[fld "Params" 3 0 0, fld "Results" 3 1 8, fld "Vars" 3 2 16, fld "Code" 44 3 24]) := by kernel_rfl
theorem cel3 : Tryz.prog.cellsOf 3 = 1 := by kernel_rfl
theorem cel64 : Tryz.prog.cellsOf 40 = 1 := by kernel_rfl
theorem cel65 : Tryz.prog.cellsOf 44 = 1 := by kernel_rfl
theorem cel71 : Tryz.prog.cellsOf 48 = 7 := by kernel_rfl
theorem cel67 : Tryz.prog.cellsOf 46 = 4 := by kernel_rfl
theorem len_cons {n : Nat} : ∀ {cs : List Value}, cs.length = n + 1 → ∃ c r, cs = c :: r ∧ r.length = n
  | c :: r, h => ⟨c, r, rfl, by simpa using h⟩
theorem int_of {H : Type} {enc : TypeId × Value → H} {W : World} {n : Nat} {c : Value} {x : DataW H × List MemPlace} (h : DataW.trod enc Tryz.prog W 0 (fun _ => true) true n 3 [c] = some x) : ∃ z : Int, c = vI z := by
  obtain ⟨z, e, -, -⟩ := DataW.trod_int und3 h
  exact ⟨z, (List.cons.inj e).1⟩
theorem reach_is : reachBytes = 140737488351232 := by decide
def Szd {H : Type} (d : DataW H) (t : Nat) : Prop := ∀ q ∈ d.weights Tryz.prog t, q ≤ reachBytes
theorem weightsAll_mem {H : Type} {P : Program} {e : TypeId} {d : DataW H} {n : Nat} (hn : n ∈ d.weights P e) : ∀ {ds : List (DataW H)}, d ∈ ds → n ∈ DataW.weightsAll P e ds
  | a :: r, h => by
    simp only [DataW.weightsAll, List.mem_append]
    rcases List.mem_cons.1 h with rfl | h
    · exact Or.inl hn
    · exact Or.inr (weightsAll_mem hn h)
theorem rows_sz {H : Type} {enc : TypeId × Value → H} {W : World} {n t e sz by' : Nat} {c : Value} {x : DataW H × List MemPlace} (ht : Tryz.prog.underlying t = some (.slice e)) (hsz : Tryz.prog.cellsOf e = sz) (hby : Tryz.prog.bytesOf e = by') (hs0 : 0 < sz)
    (h : DataW.trod enc Tryz.prog W 0 (fun _ => true) true n t [c] = some x) (hx : Szd x.1 t) {α : Type} (dflt : α) (Pr : α → List Value → Prop)
    (hel : ∀ n cs (y : DataW H × List MemPlace), DataW.trod enc Tryz.prog W 0 (fun _ => true) true n e cs = some y → Szd y.1 e → ∃ q, Pr q cs) :
    ∃ l : List α, l.length * by' ≤ reachBytes ∧ ∃ a cp, c = .slice a l.length cp ∧ (l ≠ [] → ∃ k o, a = some ⟨k, o, none⟩ ∧ k < W.heap.size ∧ ∀ j (h : j < l.length), ∃ cs, Pr l[j] cs ∧ ∀ i, i < sz → W.cell? ⟨k, o + j * sz + i, none⟩ = cs[i]?) := by
  rcases Deep.open_slice ht h with ⟨hcs, hx⟩ | ⟨a, len, cap, m, k, D, Pl, hcs, _, hl, hm, hmm, hxx, hc⟩
  · have hcs := (List.cons.inj hcs).1
    subst hcs
    exact ⟨[], by simp, none, 0, rfl, fun h => absurd rfl h⟩
  · have hcs := (List.cons.inj hcs).1
    subst hcs
    have hmc : m = cap := by simpa using hmm
    subst hmc
    have hw : ∀ q, q ∈ (((((List.range len).map D).length + ((List.range (m - len)).map fun j => D (len + j)).length) * by') :: DataW.weightsAll Tryz.prog e ((List.range len).map D)) → q ≤ reachBytes := by
      intro q hq
      apply hx
      rw [hxx]
      simp only [DataW.weights, ht, hby]
      rcases List.mem_cons.1 hq with rfl | hq
      · exact List.mem_cons_self
      · exact List.mem_cons_of_mem _ (List.mem_append_left _ hq)
    have hlw : len * by' ≤ reachBytes := by
      have := hw _ List.mem_cons_self
      simp only [List.length_map, List.length_range] at this
      exact Nat.le_trans (Nat.mul_le_mul_right by' (by omega)) this
    have hv : ∀ i, ∃ q : α × List Value, i < len → Pr q.1 q.2 ∧ q.2.length = sz ∧ ∀ j, j < sz → W.cell? ((a.add (i * sz)).add j) = q.2[j]? := by
      intro i
      by_cases hi : i < len
      · obtain ⟨cs', r0, r1⟩ := hc i (by omega)
        rw [hsz] at r0
        obtain ⟨-, hcl, hcell⟩ := World.cells?_some r0
        obtain ⟨q, hq⟩ := hel _ _ _ r1 (fun q hq => hw q (List.mem_cons_of_mem _ (weightsAll_mem hq (List.mem_map.2 ⟨i, List.mem_range.2 hi, rfl⟩))))
        exact ⟨(q, cs'), fun _ => ⟨hq, hcl, hcell⟩⟩
      · exact ⟨(dflt, []), fun h => absurd h hi⟩
    obtain ⟨Q, hQ⟩ : ∃ Q : Nat → α × List Value, ∀ i, i < len → Pr (Q i).1 (Q i).2 ∧ (Q i).2.length = sz ∧ ∀ j, j < sz → W.cell? ((a.add (i * sz)).add j) = (Q i).2[j]? :=
      ⟨fun i => (hv i).choose, fun i => (hv i).choose_spec⟩
    have hlen : ((List.range len).map fun i => (Q i).1).length = len := by simp
    refine ⟨(List.range len).map fun i => (Q i).1, by rw [hlen]; exact hlw, some a, m, by rw [hlen], fun hne => ?_⟩
    obtain ⟨b, off, spot⟩ := a
    have hpos : 0 < len := by
      rcases Nat.eq_zero_or_pos len with h0 | h0
      · exfalso; apply hne; rw [h0]; rfl
      · exact h0
    have h00 : W.cell? ((({ block := b, off := off, spot := spot } : Addr).add (0 * sz)).add 0) = some ((Q 0).2[0]'(by rw [(hQ 0 hpos).2.1]; exact hs0)) := by
      rw [(hQ 0 hpos).2.2 0 hs0]; exact List.getElem?_eq_getElem _
    have hspot : spot = none := by
      have := World.cell?_spot h00
      simpa [Addr.add] using this
    subst hspot
    simp only [addr_off] at hQ h00
    refine ⟨b, off, rfl, cell_lt h00, fun j hj => ?_⟩
    have hj' : j < len := by simpa using hj
    refine ⟨(Q j).2, ?_, (hQ j hj').2.2⟩
    have := (hQ j hj').1
    simpa using this
theorem byt3 : Tryz.prog.bytesOf 3 = 8 := by kernel_rfl
theorem byt71 : Tryz.prog.bytesOf 48 = 88 := by kernel_rfl
theorem byt67 : Tryz.prog.bytesOf 46 = 48 := by kernel_rfl
theorem ints_sz {H : Type} {enc : TypeId × Value → H} {W : World} {n : Nat} {c : Value} {x : DataW H × List MemPlace} (h : DataW.trod enc Tryz.prog W 0 (fun _ => true) true n 40 [c] = some x) (hx : Szd x.1 40) : ∃ l, IA W c l ∧ l.length ≤ 17592186043904 := by
  obtain ⟨l, hl, a, cp, e, hh⟩ := rows_sz under64 cel3 byt3 (by omega) h hx (0 : Int) (fun q cs => cs = [vI q]) (fun n cs y hy _ => by
    obtain ⟨z, e, -, -⟩ := DataW.trod_int und3 hy
    exact ⟨z, e⟩)
  have hr := reach_is
  refine ⟨l, ⟨a, cp, e, fun hne => ?_⟩, by omega⟩
  obtain ⟨k, o, ea, hk, hc⟩ := hh hne
  refine ⟨k, o, ea, hk, fun j hj => ?_⟩
  obtain ⟨cs, rfl, h1⟩ := hc j hj
  have := h1 0 (by omega)
  rw [Nat.mul_one] at this
  exact this
def IsIz (W : World) (c : PI) (cs : List Value) : Prop := ∃ av rv, cs = [vI c.op, vI c.r, vI c.s, vI c.t, vI c.n, av, rv] ∧ IA W av c.args ∧ IA W rv c.rets ∧ c.args.length ≤ 17592186043904 ∧ c.rets.length ≤ 17592186043904
theorem instr_sz {H : Type} {enc : TypeId × Value → H} {W : World} {n : Nat} {cs : List Value} {x : DataW H × List MemPlace} (h : DataW.trod enc Tryz.prog W 0 (fun _ => true) true n 48 cs = some x) (hx : Szd x.1 48) : ∃ c : PI, IsIz W c cs := by
  obtain ⟨xs, k, -, rfl, hcl, hxl, hf⟩ := DataW.trod_struct und71 h
  rw [cel71] at hcl
  have hxl : xs.length = 7 := hxl
  obtain ⟨c0, r0, rfl, hl1⟩ := len_cons hcl
  obtain ⟨c1, r1, rfl, hl2⟩ := len_cons hl1
  obtain ⟨c2, r2, rfl, hl3⟩ := len_cons hl2
  obtain ⟨c3, r3, rfl, hl4⟩ := len_cons hl3
  obtain ⟨c4, r4, rfl, hl5⟩ := len_cons hl4
  obtain ⟨c5, r5, rfl, hl6⟩ := len_cons hl5
  obtain ⟨c6, r6, rfl, hl7⟩ := len_cons hl6
  obtain rfl := List.length_eq_zero_iff.1 hl7
  have g0 := hf 0 (fld "Op" 3 0 0) rfl
  have g1 := hf 1 (fld "R" 3 1 8) rfl
  have g2 := hf 2 (fld "S" 3 2 16) rfl
  have g3 := hf 3 (fld "T" 3 3 24) rfl
  have g4 := hf 4 (fld "N" 3 4 32) rfl
  have g5 := hf 5 (fld "Args" 40 5 40) rfl
  have g6 := hf 6 (fld "Rets" 40 6 64) rfl
  have ee : ∀ i (hi : i < 7), xs[i]? = some (xs[i]'(by omega)) := fun i hi => List.getElem?_eq_getElem (by omega)
  rw [ee 0 (by omega)] at g0
  rw [ee 1 (by omega)] at g1
  rw [ee 2 (by omega)] at g2
  rw [ee 3 (by omega)] at g3
  rw [ee 4 (by omega)] at g4
  rw [ee 5 (by omega)] at g5
  rw [ee 6 (by omega)] at g6
  simp only [fld, cel3, cel64, List.drop_zero, List.drop_succ_cons, List.take_succ_cons, List.take_zero] at g0 g1 g2 g3 g4 g5 g6
  obtain ⟨z0, rfl⟩ := int_of g0
  obtain ⟨z1, rfl⟩ := int_of g1
  obtain ⟨z2, rfl⟩ := int_of g2
  obtain ⟨z3, rfl⟩ := int_of g3
  obtain ⟨z4, rfl⟩ := int_of g4
  have bb : ∀ i (hi : i < 7) u, (#[fld "Op" 3 0 0, fld "R" 3 1 8, fld "S" 3 2 16, fld "T" 3 3 24, fld "N" 3 4 32, fld "Args" 40 5 40, fld "Rets" 40 6 64].toList.map (·.type))[i]? = some u → Szd (xs[i]'(by omega)).1 u := fun i hi u hu q hq => by
    apply hx
    simp only [DataW.weights, und71]
    exact DataW.weights_mem_each (j := i) (t := u) (d := (xs[i]'(by omega)).1) hu (by rw [List.getElem?_map, ee i hi]; rfl) q hq
  obtain ⟨la, hA, hla⟩ := ints_sz g5 (bb 5 (by omega) 40 rfl)
  obtain ⟨lr, hR, hlr⟩ := ints_sz g6 (bb 6 (by omega) 40 rfl)
  exact ⟨⟨z0, z1, z2, z3, z4, la, lr⟩, c5, c6, rfl, hA, hR, hla, hlr⟩
theorem code_sz {H : Type} {enc : TypeId × Value → H} {W : World} {n : Nat} {c : Value} {x : DataW H × List MemPlace} (h : DataW.trod enc Tryz.prog W 0 (fun _ => true) true n 44 [c] = some x) (hx : Szd x.1 44) : ∃ l, CA W c l ∧ FineC l := by
  obtain ⟨l, hl, a, cp, e, hh⟩ := rows_sz under65 cel71 byt71 (by omega) h hx (⟨0, 0, 0, 0, 0, [], []⟩ : PI) (IsIz W) (fun n cs y hy hs => instr_sz hy hs)
  have hr := reach_is
  refine ⟨l, ⟨a, cp, e, fun hne => ?_⟩, by omega, fun c hc => ?_⟩
  · obtain ⟨k, o, ea, hk, hc⟩ := hh hne
    refine ⟨k, o, ea, hk, fun j hj => ?_⟩
    obtain ⟨cs, ⟨av, rv, rfl, h2, h3, -⟩, h1⟩ := hc j hj
    exact ⟨av, rv, h1 0 (by omega), h1 1 (by omega), h1 2 (by omega), h1 3 (by omega), h1 4 (by omega), h1 5 (by omega), h1 6 (by omega), h2, h3⟩
  · obtain ⟨j, hj, rfl⟩ := List.getElem_of_mem hc
    obtain ⟨k, o, ea, hk, hcc⟩ := hh (by intro e; simp [e] at hj)
    obtain ⟨cs, ⟨av, rv, -, -, -, h4, h5⟩, -⟩ := hcc j hj
    exact ⟨h4, h5⟩
def IsFz (W : World) (f : PF) (cs : List Value) : Prop := ∃ cv, cs = [vI f.P, vI f.R, vI f.V, cv] ∧ CA W cv f.code ∧ FineC f.code
theorem func_sz {H : Type} {enc : TypeId × Value → H} {W : World} {n : Nat} {cs : List Value} {x : DataW H × List MemPlace} (h : DataW.trod enc Tryz.prog W 0 (fun _ => true) true n 46 cs = some x) (hx : Szd x.1 46) : ∃ f : PF, IsFz W f cs := by
  obtain ⟨xs, k, -, rfl, hcl, hxl, hf⟩ := DataW.trod_struct und67 h
  rw [cel67] at hcl
  have hxl : xs.length = 4 := hxl
  obtain ⟨c0, r0, rfl, hl1⟩ := len_cons hcl
  obtain ⟨c1, r1, rfl, hl2⟩ := len_cons hl1
  obtain ⟨c2, r2, rfl, hl3⟩ := len_cons hl2
  obtain ⟨c3, r3, rfl, hl4⟩ := len_cons hl3
  obtain rfl := List.length_eq_zero_iff.1 hl4
  have g0 := hf 0 (fld "Params" 3 0 0) rfl
  have g1 := hf 1 (fld "Results" 3 1 8) rfl
  have g2 := hf 2 (fld "Vars" 3 2 16) rfl
  have g3 := hf 3 (fld "Code" 44 3 24) rfl
  have ee : ∀ i (hi : i < 4), xs[i]? = some (xs[i]'(by omega)) := fun i hi => List.getElem?_eq_getElem (by omega)
  rw [ee 0 (by omega)] at g0
  rw [ee 1 (by omega)] at g1
  rw [ee 2 (by omega)] at g2
  rw [ee 3 (by omega)] at g3
  simp only [fld, cel3, cel65, List.drop_zero, List.drop_succ_cons, List.take_succ_cons, List.take_zero] at g0 g1 g2 g3
  obtain ⟨z0, rfl⟩ := int_of g0
  obtain ⟨z1, rfl⟩ := int_of g1
  obtain ⟨z2, rfl⟩ := int_of g2
  have bb : Szd (xs[3]'(by omega)).1 44 := fun q hq => by
    apply hx
    simp only [DataW.weights, und67]
    exact DataW.weights_mem_each (j := 3) (t := 44) (d := (xs[3]'(by omega)).1) rfl (by rw [List.getElem?_map, ee 3 (by omega)]; rfl) q hq
  obtain ⟨l, hC, hl⟩ := code_sz g3 bb
  exact ⟨⟨z0, z1, z2, l⟩, c3, rfl, hC, hl⟩
theorem knob : ownKnob Tryz.prog.godebug = none := by kernel_rfl
theorem laysOut : laidOutB Tryz.prog = true := by kernel_rfl
theorem gTab : Tryz.prog.globalNamed "fugue/code.numberSizes" = some 1 := by kernel_rfl
theorem gTabType : (Tryz.prog.globals[1]?).map (·.type) = some 139 := by kernel_rfl
theorem under138 : Tryz.prog.underlying 139 = some (.array 18 3) := by kernel_rfl
theorem cells138 : Tryz.prog.cellsOf 139 = 18 := by kernel_rfl
theorem gRow : Tryz.prog.globalNamed "fugue/flow.rows" = some 0 := by kernel_rfl
theorem gRowType : (Tryz.prog.globals[0]?).map (·.type) = some 99 := by kernel_rfl
theorem under100 : Tryz.prog.underlying 99 = some (.array 18 98) := by kernel_rfl
def fldp (name : String) (type offset byteOffset : Nat) : Field := { name := name, type := type, offset := offset, embedded := false, tag := "", pkgPath := "fugue/flow", byteOffset := byteOffset }
theorem under99 : Tryz.prog.underlying 98 = some (.struct #[fldp "how" 3 0 0, fldp "dst" 3 1 8, fldp "src" 3 2 16, fldp "derefs" 3 3 24]) := by kernel_rfl
theorem cells99 : Tryz.prog.cellsOf 98 = 4 := by kernel_rfl
theorem under4 : Tryz.prog.underlying 4 = some .bool := by kernel_rfl
theorem laid_tail {P : Program} {x : String × DataW Unit} {r : List (String × DataW Unit)} {w : World} (h : laidMet P (x :: r) w) : laidMet P r w := by
  obtain ⟨ps, hv, hnd, hrows⟩ := h
  obtain ⟨n, d⟩ := x
  obtain ⟨g, t, cs, fuel, p, q, _, _, _, _, hq, rfl⟩ := hv
  exact ⟨q, hq, List.Nodup.sublist (List.sublist_append_right _ _) hnd, fun b off hm => hrows b off (List.mem_append_right _ hm)⟩
theorem tab_of {W : World} (h : laidMetH Tryz.prog Rows.flowEdgesRow.laid W) : Tab W := by
  have ht : Lib.TabIs Tryz.prog W "fugue/code.numberSizes" .i64 [0, 8, 0, 0, 0, 0, 1, 1, 1, 1, 1, 2, 0, 2, 2, 0, 0, 0] := Lib.tabIs_of_head (rest := [("fugue/flow.rows", Rows.laid_fugue_flow_rows)]) gTab gTabType under138 und3 cel3 cells138 h
  intro op hop
  have hc := ht.cell gTab op (by simpa using hop)
  rw [hc]
  simp only [Option.some.injEq, Value.int.injEq, true_and]
  match op, hop with
  | 0, _ | 1, _ | 2, _ | 3, _ | 4, _ | 5, _ | 6, _ | 7, _ | 8, _ | 9, _ | 10, _ | 11, _ | 12, _ | 13, _ | 14, _ | 15, _ | 16, _ | 17, _ => rfl
  | n + 18, h => exact absurd h (by omega)
theorem four_of {H : Type} {enc : TypeId × Value → H} {w : World} {base : Nat} {sp : Nat → Bool} {held : Bool} {fuel : Nat} {cs : List Value} {p : List MemPlace} {a b c d : Int} (h : DataW.trod enc Tryz.prog w base sp held fuel 98 cs = some (.agg [.lit (.int .i64 a), .lit (.int .i64 b), .lit (.int .i64 c), .lit (.int .i64 d)], p)) : cs = [vI a, vI b, vI c, vI d] := by
  obtain ⟨xs, k, -, hx, hcl, hxl, hf⟩ := DataW.trod_struct under99 h
  rw [cells99] at hcl
  have hxl : xs.length = 4 := hxl
  obtain ⟨c0, r0, rfl, hl1⟩ := len_cons hcl
  obtain ⟨c1, r1, rfl, hl2⟩ := len_cons hl1
  obtain ⟨c2, r2, rfl, hl3⟩ := len_cons hl2
  obtain ⟨c3, r3, rfl, hl4⟩ := len_cons hl3
  obtain rfl := List.length_eq_zero_iff.1 hl4
  have g0 := hf 0 (fldp "how" 3 0 0) rfl
  have g1 := hf 1 (fldp "dst" 3 1 8) rfl
  have g2 := hf 2 (fldp "src" 3 2 16) rfl
  have g3 := hf 3 (fldp "derefs" 3 3 24) rfl
  match xs, hxl with
  | [y0, y1, y2, y3], _ =>
  have hx := congrArg Prod.fst hx
  simp only [List.map_cons, List.map_nil, DataW.agg.injEq, List.cons.injEq, and_true] at hx
  obtain ⟨e0, e1, e2, e3⟩ := hx
  simp only [fldp, cel3, List.drop_zero, List.drop_succ_cons, List.take_succ_cons, List.take_zero, List.getElem?_cons_zero, List.getElem?_cons_succ] at g0 g1 g2 g3
  obtain ⟨z0, q0, h0, -⟩ := DataW.trod_int und3 g0
  obtain ⟨z1, q1, h1, -⟩ := DataW.trod_int und3 g1
  obtain ⟨z2, q2, h2, -⟩ := DataW.trod_int und3 g2
  obtain ⟨z3, q3, h3, -⟩ := DataW.trod_int und3 g3
  subst h0 h1 h2 h3
  simp only [DataW.lit.injEq, Lit.int.injEq, true_and] at e0 e1 e2 e3
  subst e0 e1 e2 e3
  rw [(List.cons.inj q0).1, (List.cons.inj q1).1, (List.cons.inj q2).1, (List.cons.inj q3).1]
def aggAt (d : DataW Unit) (i : Nat) : Option (DataW Unit) := match d with | .agg l => l[i]? | _ => none
theorem rowsA_of {W : World} (h : laidMetH Tryz.prog Rows.flowEdgesRow.laid W) : RowsA W := by
  have h' : laidMet Tryz.prog [("fugue/code.numberSizes", Rows.laid_fugue_code_numberSizes), ("fugue/flow.rows", Rows.laid_fugue_flow_rows)] W := h
  obtain ⟨ps, ⟨g', t', cs, fuel, p, q, hg', ht', hvar, hd, _, _⟩, _⟩ := laid_tail h'
  obtain rfl := Option.some.inj (gRow.symm.trans hg')
  obtain rfl := Option.some.inj (gRowType.symm.trans ht')
  obtain ⟨xs, m, -, hx, hcl, hxl, hf⟩ := DataW.trod_array under100 hd
  have key : ∀ (op : Nat) (a b c d : Int), op < 18 → aggAt Rows.laid_fugue_flow_rows op = some (.agg [.lit (.int .i64 a), .lit (.int .i64 b), .lit (.int .i64 c), .lit (.int .i64 d)]) → W.cell? ⟨0, op * 4, none⟩ = some (vI a) ∧ W.cell? ⟨0, op * 4 + 1, none⟩ = some (vI b) ∧ W.cell? ⟨0, op * 4 + 2, none⟩ = some (vI c) ∧ W.cell? ⟨0, op * 4 + 3, none⟩ = some (vI d) := fun op a b c d hop he => by
    have g15 := hf op (by omega)
    rw [cells99] at g15
    have e15 : xs[op]?.map (·.1) = some (.agg [.lit (.int .i64 a), .lit (.int .i64 b), .lit (.int .i64 c), .lit (.int .i64 d)]) := by
      have hx : Rows.laid_fugue_flow_rows = .agg (xs.map (·.1)) := congrArg Prod.fst hx
      rw [hx] at he
      rw [← List.getElem?_map]
      exact he
    obtain ⟨⟨y, yp⟩, hy, rfl⟩ := Option.map_eq_some_iff.1 e15
    rw [hy] at g15
    have h4 := four_of g15
    have cc : ∀ i, i < 4 → W.cell? ⟨0, op * 4 + i, none⟩ = [vI a, vI b, vI c, vI d][i]? := fun i hi => by
      have h1 := World.var?_cell gRow hvar (op * 4 + i)
      rw [h1, ← h4]
      simp [List.getElem?_take, List.getElem?_drop, hi]
    exact ⟨cc 0 (by omega), cc 1 (by omega), cc 2 (by omega), cc 3 (by omega)⟩
  intro op hop
  match op, hop with
  | 0, _ => exact key 0 _ _ _ _ (by omega) rfl
  | 1, _ => exact key 1 _ _ _ _ (by omega) rfl
  | 2, _ => exact key 2 _ _ _ _ (by omega) rfl
  | 3, _ => exact key 3 _ _ _ _ (by omega) rfl
  | 4, _ => exact key 4 _ _ _ _ (by omega) rfl
  | 5, _ => exact key 5 _ _ _ _ (by omega) rfl
  | 6, _ => exact key 6 _ _ _ _ (by omega) rfl
  | 7, _ => exact key 7 _ _ _ _ (by omega) rfl
  | 8, _ => exact key 8 _ _ _ _ (by omega) rfl
  | 9, _ => exact key 9 _ _ _ _ (by omega) rfl
  | 10, _ => exact key 10 _ _ _ _ (by omega) rfl
  | 11, _ => exact key 11 _ _ _ _ (by omega) rfl
  | 12, _ => exact key 12 _ _ _ _ (by omega) rfl
  | 13, _ => exact key 13 _ _ _ _ (by omega) rfl
  | 14, _ => exact key 14 _ _ _ _ (by omega) rfl
  | 15, _ => exact key 15 _ _ _ _ (by omega) rfl
  | 16, _ => exact key 16 _ _ _ _ (by omega) rfl
  | 17, _ => exact key 17 _ _ _ _ (by omega) rfl
  | n + 18, h => exact absurd h (by omega)
theorem cel31 : Tryz.prog.cellsOf 40 = 1 := by kernel_rfl
theorem cel34 : Tryz.prog.cellsOf 43 = 2 := by kernel_rfl
theorem cel22 : Tryz.prog.cellsOf 22 = 1 := by kernel_rfl
theorem cel25 : Tryz.prog.cellsOf 25 = 1 := by kernel_rfl
theorem cel32 : Tryz.prog.cellsOf 41 = 1 := by kernel_rfl
theorem cel24 : Tryz.prog.cellsOf 24 = 2 := by kernel_rfl
theorem cel27 : Tryz.prog.cellsOf 27 = 4 := by kernel_rfl
theorem byt31 : Tryz.prog.bytesOf 40 = 24 := by kernel_rfl
theorem byt34 : Tryz.prog.bytesOf 43 = 48 := by kernel_rfl
theorem und34 : Tryz.prog.underlying 43 = some (.struct #[fld "Heap" 40 0 0, fld "Result" 41 1 24]) := by kernel_rfl
theorem und24 : Tryz.prog.underlying 24 = some (.struct #[fld "Globals" 3 0 0, fld "Funcs" 22 1 8]) := by kernel_rfl
theorem und27 : Tryz.prog.underlying 27 = some (.struct #[fld "P" 24 0 0, fld "F" 3 2 32, fld "Sums" 25 3 40]) := by kernel_rfl
section
variable {H : Type} {enc : TypeId × Value → H} {W : World} {n : Nat} {x : DataW H × List MemPlace}
theorem funcs_sz {c : Value} (h : DataW.trod enc Tryz.prog W 0 (fun _ => true) true n 22 [c] = some x) (hx : Szd x.1 22) : ∃ l, FA W c l ∧ FineP l := by
  obtain ⟨l, hl, a, cp, e, hh⟩ := rows_sz under24 cel67 byt67 (by omega) h hx (⟨0, 0, 0, []⟩ : PF) (IsFz W) (fun n cs y hy hs => func_sz hy hs)
  have hr := reach_is
  refine ⟨l, ⟨a, cp, e, fun hne => ?_⟩, by omega, fun f hf => ?_⟩
  · obtain ⟨k, o, ea, hk, hc⟩ := hh hne
    refine ⟨k, o, ea, hk, fun j hj => ?_⟩
    obtain ⟨cs, ⟨cv, rfl, h2, -⟩, h1⟩ := hc j hj
    exact ⟨cv, h1 0 (by omega), h1 1 (by omega), h1 2 (by omega), h1 3 (by omega), h2⟩
  · obtain ⟨j, hj, rfl⟩ := List.getElem_of_mem hf
    obtain ⟨k, o, ea, hk, hcc⟩ := hh (by intro e; simp [e] at hj)
    obtain ⟨cs, ⟨cv, -, -, h4⟩, -⟩ := hcc j hj
    exact h4
theorem lists_sz {c : Value} (h : DataW.trod enc Tryz.prog W 0 (fun _ => true) true n 41 [c] = some x) (hx : Szd x.1 41) : ∃ l, LA W c l ∧ l.length ≤ 5864062014634 ∧ ∀ z ∈ l, z.length ≤ 17592186043904 := by
  obtain ⟨l, hl, a, cp, e, hh⟩ := rows_sz underL32 cel31 byt31 (by omega) h hx ([] : List Int) (fun q cs => ∃ u, cs = [u] ∧ IA W u q ∧ q.length ≤ 17592186043904) (fun n cs y hy hs => by
    obtain ⟨u, rfl⟩ : ∃ u, cs = [u] := by
      rcases Deep.open_slice under64 hy with ⟨hcs, -⟩ | ⟨a, len, cap, m, k, D, Pl, hcs, -⟩ <;> exact ⟨_, hcs⟩
    obtain ⟨q, h1, h2⟩ := ints_sz hy hs
    exact ⟨q, u, rfl, h1, h2⟩)
  have hr := reach_is
  refine ⟨l, ⟨a, cp, e, fun hne => ?_⟩, by omega, fun z hz => ?_⟩
  · obtain ⟨k, o, ea, hk, hc⟩ := hh hne
    refine ⟨k, o, ea, hk, fun j hj => ?_⟩
    obtain ⟨cs, ⟨u, rfl, h2, -⟩, h1⟩ := hc j hj
    have := h1 0 (by omega)
    rw [Nat.mul_one, Nat.add_zero] at this
    exact ⟨u, this, h2⟩
  · obtain ⟨j, hj, rfl⟩ := List.getElem_of_mem hz
    obtain ⟨k, o, ea, hk, hcc⟩ := hh (by intro e; simp [e] at hj)
    obtain ⟨cs, ⟨u, -, -, h4⟩, -⟩ := hcc j hj
    exact h4
def IsSz (W : World) (s : PS) (cs : List Value) : Prop := ∃ hv rv, cs = [hv, rv] ∧ IA W hv s.H ∧ LA W rv s.R ∧ s.H.length ≤ 17592186043904 ∧ s.R.length ≤ 5864062014634 ∧ ∀ l ∈ s.R, l.length ≤ 17592186043904
theorem sum_sz {cs : List Value} (h : DataW.trod enc Tryz.prog W 0 (fun _ => true) true n 43 cs = some x) (hx : Szd x.1 43) : ∃ s : PS, IsSz W s cs := by
  obtain ⟨xs, k, -, rfl, hcl, hxl, hf⟩ := DataW.trod_struct und34 h
  rw [cel34] at hcl
  have hxl : xs.length = 2 := hxl
  obtain ⟨c0, r0, rfl, hl1⟩ := len_cons hcl
  obtain ⟨c1, r1, rfl, hl2⟩ := len_cons hl1
  obtain rfl := List.length_eq_zero_iff.1 hl2
  have g0 := hf 0 (fld "Heap" 40 0 0) rfl
  have g1 := hf 1 (fld "Result" 41 1 24) rfl
  have ee : ∀ i (hi : i < 2), xs[i]? = some (xs[i]'(by omega)) := fun i hi => List.getElem?_eq_getElem (by omega)
  rw [ee 0 (by omega)] at g0
  rw [ee 1 (by omega)] at g1
  simp only [fld, cel31, cel32, List.drop_zero, List.drop_succ_cons, List.take_succ_cons, List.take_zero] at g0 g1
  have bb : ∀ i (hi : i < 2) u, (#[fld "Heap" 40 0 0, fld "Result" 41 1 24].toList.map (·.type))[i]? = some u → Szd (xs[i]'(by omega)).1 u := fun i hi u hu q hq => by
    apply hx
    simp only [DataW.weights, und34]
    exact DataW.weights_mem_each (j := i) (t := u) (d := (xs[i]'(by omega)).1) hu (by rw [List.getElem?_map, ee i hi]; rfl) q hq
  obtain ⟨la, hA, hla⟩ := ints_sz g0 (bb 0 (by omega) 40 rfl)
  obtain ⟨lr, hR, hlr, hlz⟩ := lists_sz g1 (bb 1 (by omega) 41 rfl)
  exact ⟨⟨la, lr⟩, c0, c1, rfl, hA, hR, hla, hlr, hlz⟩
theorem sums_sz {c : Value} (h : DataW.trod enc Tryz.prog W 0 (fun _ => true) true n 25 [c] = some x) (hx : Szd x.1 25) : ∃ l, SsA W c l ∧ FineS l := by
  obtain ⟨l, hl, a, cp, e, hh⟩ := rows_sz under25 cel34 byt34 (by omega) h hx (⟨[], []⟩ : PS) (IsSz W) (fun n cs y hy hs => sum_sz hy hs)
  have hr := reach_is
  refine ⟨l, ⟨a, cp, e, fun hne => ?_⟩, by omega, fun s hs => ?_⟩
  · obtain ⟨k, o, ea, hk, hc⟩ := hh hne
    refine ⟨k, o, ea, hk, fun j hj => ?_⟩
    obtain ⟨cs, ⟨hv, rv, rfl, h2, h3, -⟩, h1⟩ := hc j hj
    exact ⟨hv, rv, h1 0 (by omega), h1 1 (by omega), h2, h3⟩
  · obtain ⟨j, hj, rfl⟩ := List.getElem_of_mem hs
    obtain ⟨k, o, ea, hk, hcc⟩ := hh (by intro e; simp [e] at hj)
    obtain ⟨cs, ⟨hv, rv, -, -, -, h4⟩, -⟩ := hcc j hj
    exact h4
theorem prog_sz {cs : List Value} (h : DataW.trod enc Tryz.prog W 0 (fun _ => true) true n 24 cs = some x) (hx : Szd x.1 24) : ∃ (G : Int) (fv : Value) (fs : List PF), cs = [vI G, fv] ∧ FA W fv fs ∧ FineP fs := by
  obtain ⟨xs, k, -, rfl, hcl, hxl, hf⟩ := DataW.trod_struct und24 h
  rw [cel24] at hcl
  have hxl : xs.length = 2 := hxl
  obtain ⟨c0, r0, rfl, hl1⟩ := len_cons hcl
  obtain ⟨c1, r1, rfl, hl2⟩ := len_cons hl1
  obtain rfl := List.length_eq_zero_iff.1 hl2
  have g0 := hf 0 (fld "Globals" 3 0 0) rfl
  have g1 := hf 1 (fld "Funcs" 22 1 8) rfl
  have ee : ∀ i (hi : i < 2), xs[i]? = some (xs[i]'(by omega)) := fun i hi => List.getElem?_eq_getElem (by omega)
  rw [ee 0 (by omega)] at g0
  rw [ee 1 (by omega)] at g1
  simp only [fld, cel3, cel22, List.drop_zero, List.drop_succ_cons, List.take_succ_cons, List.take_zero] at g0 g1
  obtain ⟨z0, rfl⟩ := int_of g0
  have bb : Szd (xs[1]'(by omega)).1 22 := fun q hq => by
    apply hx
    simp only [DataW.weights, und24]
    exact DataW.weights_mem_each (j := 1) (t := 22) (d := (xs[1]'(by omega)).1) rfl (by rw [List.getElem?_map, ee 1 (by omega)]; rfl) q hq
  obtain ⟨fs, hF, hP⟩ := funcs_sz g1 bb
  exact ⟨z0, c1, fs, rfl, hF, hP⟩
theorem case_sz {cs : List Value} (h : DataW.trod enc Tryz.prog W 0 (fun _ => true) true n 27 cs = some x) (hx : Szd x.1 27) : ∃ (G : Int) (fv : Value) (fs : List PF) (F : Int) (sv : Value) (ss : List PS), cs = [vI G, fv, vI F, sv] ∧ FA W fv fs ∧ FineP fs ∧ SsA W sv ss ∧ FineS ss := by
  obtain ⟨xs, k, -, rfl, hcl, hxl, hf⟩ := DataW.trod_struct und27 h
  rw [cel27] at hcl
  have hxl : xs.length = 3 := hxl
  obtain ⟨c0, r0, rfl, hl1⟩ := len_cons hcl
  obtain ⟨c1, r1, rfl, hl2⟩ := len_cons hl1
  obtain ⟨c2, r2, rfl, hl3⟩ := len_cons hl2
  obtain ⟨c3, r3, rfl, hl4⟩ := len_cons hl3
  obtain rfl := List.length_eq_zero_iff.1 hl4
  have g0 := hf 0 (fld "P" 24 0 0) rfl
  have g1 := hf 1 (fld "F" 3 2 32) rfl
  have g2 := hf 2 (fld "Sums" 25 3 40) rfl
  have ee : ∀ i (hi : i < 3), xs[i]? = some (xs[i]'(by omega)) := fun i hi => List.getElem?_eq_getElem (by omega)
  rw [ee 0 (by omega)] at g0
  rw [ee 1 (by omega)] at g1
  rw [ee 2 (by omega)] at g2
  simp only [fld, cel3, cel24, cel25, List.drop_zero, List.drop_succ_cons, List.take_succ_cons, List.take_zero] at g0 g1 g2
  have bb : ∀ i (hi : i < 3) u, (#[fld "P" 24 0 0, fld "F" 3 2 32, fld "Sums" 25 3 40].toList.map (·.type))[i]? = some u → Szd (xs[i]'(by omega)).1 u := fun i hi u hu q hq => by
    apply hx
    simp only [DataW.weights, und27]
    exact DataW.weights_mem_each (j := i) (t := u) (d := (xs[i]'(by omega)).1) hu (by rw [List.getElem?_map, ee i hi]; rfl) q hq
  obtain ⟨G, fv, fs, e, hF, hP⟩ := prog_sz g0 (bb 0 (by omega) 24 rfl)
  obtain ⟨z1, rfl⟩ := int_of g1
  obtain ⟨ss, hS, hFS⟩ := sums_sz g2 (bb 2 (by omega) 25 rfl)
  cases e
  exact ⟨G, _, fs, z1, _, ss, rfl, hF, hP, hS, hFS⟩
end
end Go.Proofs.YtlmlmhinbkcpoaaGreatDoor
