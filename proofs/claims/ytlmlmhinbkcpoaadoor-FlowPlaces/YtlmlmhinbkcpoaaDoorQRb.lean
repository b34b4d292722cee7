import Derived.Test.YtlmlmhinbkcpoaaDoorQRa
import Derived.JoinedCond
import Derived.Test.YtlmlmhinbkcpoaaDoorCards
import Derived.Test.YtlmlmhinbkcpoaaDoorTie
import Derived.Deep.DeepHandedRow
import Derived.Lib.LaidTab
namespace Go.Proofs.YtlmlmhinbkcpoaaDoor
open Go.ChangeShapes Go.WideShapes Go.ChangeAt Go.RowKit
set_option linter.unusedVariables false
set_option linter.unusedSimpArgs false

theorem knob : ownKnob Tryd.prog.godebug = none := by kernel_rfl
theorem laysOut : laidOutB Tryd.prog = true := by kernel_rfl
theorem gTab : Tryd.prog.globalNamed "fugue/code.numberSizes" = some 1 := by kernel_rfl
theorem gTabType : (Tryd.prog.globals[1]?).map (·.type) = some 138 := by kernel_rfl
theorem under138 : Tryd.prog.underlying 138 = some (.array 18 3) := by kernel_rfl
theorem cells138 : Tryd.prog.cellsOf 138 = 18 := by kernel_rfl
theorem gRow : Tryd.prog.globalNamed "fugue/flow.rows" = some 0 := by kernel_rfl
theorem gRowType : (Tryd.prog.globals[0]?).map (·.type) = some 100 := by kernel_rfl
theorem under100 : Tryd.prog.underlying 100 = some (.array 18 99) := by kernel_rfl
def fldp (name : String) (type offset byteOffset : Nat) : Field := { name := name, type := type, offset := offset, embedded := false, tag := "", pkgPath := "fugue/flow", byteOffset := byteOffset }
theorem under99 : Tryd.prog.underlying 99 = some (.struct #[fldp "how" 3 0 0, fldp "dst" 3 1 8, fldp "src" 3 2 16, fldp "derefs" 3 3 24]) := by kernel_rfl
theorem cells99 : Tryd.prog.cellsOf 99 = 4 := by kernel_rfl
theorem cells100 : Tryd.prog.cellsOf 100 = 72 := by kernel_rfl
theorem under4 : Tryd.prog.underlying 4 = some .bool := by kernel_rfl

theorem laid_tail {P : Program} {x : String × DataW Unit} {r : List (String × DataW Unit)} {w : World} (h : laidMet P (x :: r) w) : laidMet P r w := by
  obtain ⟨ps, hv, hnd, hrows⟩ := h
  obtain ⟨n, d⟩ := x
  obtain ⟨g, t, cs, fuel, p, q, _, _, _, _, hq, rfl⟩ := hv
  exact ⟨q, hq, List.Nodup.sublist (List.sublist_append_right _ _) hnd, fun b off hm => hrows b off (List.mem_append_right _ hm)⟩

/-- The list of the row gives the table's cells. -/
theorem tab_of {W : World} (h : laidMetH Tryd.prog Rows.flowPlacesRow.laid W) : Tab W := by
  have ht : Lib.TabIs Tryd.prog W "fugue/code.numberSizes" .i64 [0, 8, 0, 0, 0, 0, 1, 1, 1, 1, 1, 2, 0, 2, 2, 0, 0, 0] := Lib.tabIs_of_head (rest := [("fugue/flow.rows", Rows.laid_fugue_flow_rows)]) gTab gTabType under138 und3 cel3 cells138 h
  intro op hop
  have hc := ht.cell gTab op (by simpa using hop)
  rw [hc]
  simp only [Option.some.injEq, Value.int.injEq, true_and]
  match op, hop with
  | 0, _ | 1, _ | 2, _ | 3, _ | 4, _ | 5, _ | 6, _ | 7, _ | 8, _ | 9, _ | 10, _ | 11, _ | 12, _ | 13, _ | 14, _ | 15, _ | 16, _ | 17, _ => rfl
  | n + 18, h => exact absurd h (by omega)

/-- A row of four numbers that reads as these. -/
theorem four_of {H : Type} {enc : TypeId × Value → H} {w : World} {base : Nat} {sp : Nat → Bool} {held : Bool} {fuel : Nat} {cs : List Value} {p : List MemPlace} {a b c d : Int} (h : DataW.trod enc Tryd.prog w base sp held fuel 99 cs = some (.agg [.lit (.int .i64 a), .lit (.int .i64 b), .lit (.int .i64 c), .lit (.int .i64 d)], p)) : cs = [vI a, vI b, vI c, vI d] := by
  obtain ⟨xs, k, -, hx, hcl, hxl, hf⟩ := DataW.trod_struct under99 h
  rw [cells99] at hcl
  have hxl : xs.length = 4 := hxl
  obtain ⟨c0, r0, rfl, hl1⟩ := len_cons hcl
  obtain ⟨c1, r1, rfl, hl2⟩ := len_cons hl1
  obtain ⟨c2, r2, rfl, hl3⟩ := len_cons hl2
  obtain ⟨c3, r3, rfl, hl4⟩ := len_cons hl3
  obtain rfl := List.length_eq_zero_iff.1 hl4
  have g0 := hf 0 (fldp "how" 3 0 0) rfl
  have g1 := hf 1 (fldp "dst" 3 1 8) rfl
  have g2 := hf 2 (fldp "src" 3 2 16) rfl
  have g3 := hf 3 (fldp "derefs" 3 3 24) rfl
  match xs, hxl with
  | [y0, y1, y2, y3], _ =>
  have hx := congrArg Prod.fst hx
  simp only [List.map_cons, List.map_nil, DataW.agg.injEq, List.cons.injEq, and_true] at hx
  obtain ⟨e0, e1, e2, e3⟩ := hx
  simp only [fldp, cel3, List.drop_zero, List.drop_succ_cons, List.take_succ_cons, List.take_zero, List.getElem?_cons_zero, List.getElem?_cons_succ] at g0 g1 g2 g3
  obtain ⟨z0, q0, h0, -⟩ := DataW.trod_int und3 g0
  obtain ⟨z1, q1, h1, -⟩ := DataW.trod_int und3 g1
  obtain ⟨z2, q2, h2, -⟩ := DataW.trod_int und3 g2
  obtain ⟨z3, q3, h3, -⟩ := DataW.trod_int und3 g3
  subst h0 h1 h2 h3
  simp only [DataW.lit.injEq, Lit.int.injEq, true_and] at e0 e1 e2 e3
  subst e0 e1 e2 e3
  rw [(List.cons.inj q0).1, (List.cons.inj q1).1, (List.cons.inj q2).1, (List.cons.inj q3).1]

/-- The list of the row gives what the walk reads of the second table. -/
theorem rowsT_of {W : World} (h : laidMetH Tryd.prog Rows.flowPlacesRow.laid W) : RowsT W := by
  have h' : laidMet Tryd.prog [("fugue/code.numberSizes", Rows.laid_fugue_code_numberSizes), ("fugue/flow.rows", Rows.laid_fugue_flow_rows)] W := h
  obtain ⟨ps, ⟨g', t', cs, fuel, p, q, hg', ht', hvar, hd, _, _⟩, _⟩ := laid_tail h'
  obtain rfl := Option.some.inj (gRow.symm.trans hg')
  obtain rfl := Option.some.inj (gRowType.symm.trans ht')
  obtain ⟨xs, m, -, hx, hcl, hxl, hf⟩ := DataW.trod_array under100 hd
  have g15 := hf 15 (by omega)
  rw [cells99] at g15
  have e15 : xs[15]?.map (·.1) = some (.agg [.lit (.int .i64 2), .lit (.int .i64 0), .lit (.int .i64 0), .lit (.int .i64 0)]) := by
    have hx := congrArg Prod.fst hx
    simp only [Rows.laid_fugue_flow_rows, DataW.agg.injEq] at hx
    rw [← List.getElem?_map, ← hx]
    rfl
  obtain ⟨⟨y, yp⟩, hy, rfl⟩ := Option.map_eq_some_iff.1 e15
  rw [hy] at g15
  have h4 := four_of g15
  have cc : ∀ i, i < 4 → W.cell? ⟨0, 60 + i, none⟩ = [vI 2, vI 0, vI 0, vI 0][i]? := fun i hi => by
    have h1 := World.var?_cell gRow hvar (60 + i)
    rw [h1, ← h4]
    simp [List.getElem?_take, List.getElem?_drop, hi]
  exact ⟨cc 0 (by omega), cc 1 (by omega), cc 2 (by omega), cc 3 (by omega)⟩

end Go.Proofs.YtlmlmhinbkcpoaaDoor
