import Derived.Test.YtdkijecnnmncnaaGreatDoorQQ2J
import Derived.Test.YtdkijecnnmncnaaGreatDoorQEkJ
import Derived.JoinedCond
import Derived.Test.YtdkijecnnmncnaaGreatDoorCards
import Derived.Test.YtdkijecnnmncnaaGreatDoorTie
import Derived.Deep.DeepHandedRow
import Derived.Lib.LaidTab
import Derived.Test.YtdkijecnnmncnaaGreatDoorQEbJ
import Derived.Deep.RegionHeld3
import Derived.BigQuiet
namespace Go.Proofs.YtdkijecnnmncnaaGreatDoor
open Go.RowKit Go.Shelf
set_option linter.unusedVariables false
set_option linter.unusedSimpArgs false
set_option maxRecDepth 100000
set_option maxHeartbeats 2000000
attribute [local go_sem] Oper.semAt_some
theorem only1_in (n l n0 Ba : Nat) (x : Ed) (W : World) (J : List Ed → World → Prop)
 (hY : ∀ pre x W, J pre W → pre.length < 1 → YieldAt Fence.wide (n - 1) Tryz.prog l (encE x) W fun e W' => e = .returned (.bool true) ∧ J (pre ++ [x]) W' ∧ KpA n0 W W')
 (hBa : W.heap[Ba]? = some (.cells #[vI x.1, vI x.2.1, vI x.2.2] 140)) (h0 : J [] W) :
 CallsIn Fence.wide n Tryz.prog 191 #[.func (.yield l) #[] #[], .pointer (some ⟨Ba, 0, none⟩)] W fun e W' => (∃ v, e = .returned v) ∧ J [x] W' := by
 have q0 : W.cell? ⟨Ba, 0, none⟩ = some (vI x.1) := by rw [cell_of0 hBa]; rfl
 have q1 : W.cell? ⟨Ba, 1, none⟩ = some (vI x.2.1) := by rw [cell_of0 hBa]; rfl
 have q2 : W.cell? ⟨Ba, 2, none⟩ = some (vI x.2.2) := by rw [cell_of0 hBa]; rfl
 obtain ⟨fn, tmps, assign, body, hy, hR⟩ := hY [] x W h0 (by simp)
 refine callsIn_of_wp Tryz.func191 rfl trivial ?_ rfl
 simp only [Tryz.ntmps191, List.size_toArray, List.length_cons, List.length_nil, Nat.reduceAdd, Nat.reduceSub, Array.replicate_succ, Array.replicate_zero, List.push_toArray, List.append_toArray, List.nil_append, List.cons_append]
 gi_wp2
 refine ⟨(fun h => by cases h), hR.mono ?_⟩
 rintro e W3 ⟨rfl, hJ3, hk3⟩
 gi_wp2
 go_end0
 exact ⟨⟨_, rfl⟩, hJ3⟩
theorem only_gives (n n0 Ba : Nat) (x : Ed) (w : World) (hBa : w.heap[Ba]? = some (.cells #[vI x.1, vI x.2.1, vI x.2.2] 140)) :
 SeqGivesC Fence.wide n Tryz.prog 191 #[] #[.pointer (some ⟨Ba, 0, none⟩)] encE (fun _ => KpA n0) (fun xs => xs = [x]) 1 w := fun l J W hW _ hl hJ hY h0 =>
 (only1_in n l n0 Ba x W J hY ((hW.block Ba (heap_lt0 hBa)).trans hBa) h0).mono (fun e W' ⟨he, hj⟩ => ⟨he, _, rfl, hj⟩)
theorem none_gives (n n0 : Nat) (w : World) : SeqGivesC Fence.wide n Tryz.prog 158 #[] #[] encE (fun _ => KpA n0) (fun xs => xs = []) 0 w := fun l J W hW _ hl hJ hY h0 => by
 refine callsIn_of_wp Tryz.func158 rfl trivial ?_ rfl
 simp only [Tryz.ntmps158, List.size_toArray, List.length_cons, List.length_nil, Nat.reduceAdd, Nat.reduceSub, Array.replicate_succ, Array.replicate_zero, List.push_toArray, List.append_toArray, List.nil_append, List.cons_append]
 gi_wp2
 go_end0
 exact ⟨⟨_, rfl⟩, h0⟩
theorem only_any (x : Ed) (w : World) : Calls Tryz.prog 154 (encE x) w fun e w' => e = .returned (.func (.func 191) #[] #[.pointer (some ⟨w.heap.size, 0, none⟩)]) ∧ w' = w.alloc (.cells #[vI x.1, vI x.2.1, vI x.2.2] 140) := by
 go_enter Tryz.func154, Tryz.ntmps154
 go_wp2
 go_ret
 exact ⟨rfl, rfl⟩
def endX (R V wh r s cell : Int) : Int := if wh = 1 then varX R V r else if wh = 2 then varX R V s else if wh = 3 then cell else 0
theorem end_any (P R V : Int) (ca : Option Addr) (cn cc : Nat) (sa : Option Addr) (sn sc : Nat) (iv : IV) (wh cell : Int) (w : World) :
 Calls Tryz.prog 155 #[.agg #[vI P, vI R, vI V, .slice ca cn cc, .slice sa sn sc], vI wh, iv.val, vI cell] w fun e w' => e = .returned (vI (endX R V wh iv.r iv.s cell)) ∧ Fr (fun _ => False) w w' := by
 obtain ⟨op, r, s, t, n, aa, an, ac, ra, rn, rc⟩ := iv
 obtain ⟨wa, hwa⟩ : ∃ wa, wa = (w.alloc (.cells #[vI P, vI R, vI V, .slice ca cn cc, .slice sa sn sc] 138)).alloc (.cells #[vI op, vI r, vI s, vI t, vI n, .slice aa an ac, .slice ra rn rc] 79) := ⟨_, rfl⟩
 have hF : Fr (fun _ => False) w wa := by rw [hwa]; exact Fr.alloc (Fr.alloc (Fr.refl _ w) _) _
 have b0 : wa.heap[w.heap.size]? = some (.cells #[vI P, vI R, vI V, .slice ca cn cc, .slice sa sn sc] 138) := by rw [hwa, Go.RowKit.Below.heap_alloc _ _ _ (by simp)]; exact heap_new0 w _
 have b1 : wa.heap[w.heap.size + 1]? = some (.cells #[vI op, vI r, vI s, vI t, vI n, .slice aa an ac, .slice ra rn rc] 79) := by
  have := heap_new0 (w.alloc (.cells #[vI P, vI R, vI V, .slice ca cn cc, .slice sa sn sc] 138)) (.cells #[vI op, vI r, vI s, vI t, vI n, .slice aa an ac, .slice ra rn rc] 79)
  rw [World.size_alloc] at this
  rw [hwa]; exact this
 have HWA : Hd (wa = (w.alloc (.cells #[vI P, vI R, vI V, .slice ca cn cc, .slice sa sn sc] 138)).alloc (.cells #[vI op, vI r, vI s, vI t, vI n, .slice aa an ac, .slice ra rn rc] 79)) := hwa
 obtain ⟨H, hH⟩ : ∃ H, H = w.heap.size := ⟨_, rfl⟩
 have HH : Hd (H = w.heap.size) := hH
 rw [← hH] at b0 b1
 have p0 : wa.cell? ⟨H, 0, none⟩ = some (vI P) := by rw [cell_of0 b0]; rfl
 have p1 : wa.cell? ⟨H, 1, none⟩ = some (vI R) := by rw [cell_of0 b0]; rfl
 have p2 : wa.cell? ⟨H, 2, none⟩ = some (vI V) := by rw [cell_of0 b0]; rfl
 have p3 : wa.cell? ⟨H, 3, none⟩ = some (.slice ca cn cc) := by rw [cell_of0 b0]; rfl
 have i1 : wa.cell? ⟨H + 1, 1, none⟩ = some (vI r) := by rw [cell_of0 b1]; rfl
 have i2 : wa.cell? ⟨H + 1, 2, none⟩ = some (vI s) := by rw [cell_of0 b1]; rfl
 have HF : Hd (Fr (fun _ => False) w wa) := hF
 clear hwa hF b0 b1 hH
 go_enter Tryz.func155, Tryz.ntmps155
 go_upto_region 1 with fail
 rw [← HWA.out, ← HH.out]
 clear HWA HH
 by_cases h1 : wh = 1
 ·have d1 : (wh == 1) = true := by simp [h1]
  have e1 : decide (wh = 1) = true := by simp [h1]
  have HX : Hd (endX R V wh r s cell = varX R V r) := by unfold Hd endX; rw [if_pos h1]
  clear h1
  go_wp2_with fail
  refine (variable_any P R V r ca cn cc wa).mono ?_
  rintro e w2 ⟨rfl, hF2⟩
  have HF2 : Hd (Fr (fun _ => False) w w2) := HF.out.trans hF2
  clear hF2 p0 p1 p2 p3 i1 i2
  go_wp2_with fail
  go_ret
  exact ⟨by rw [HX.out]; rfl, HF2.out⟩
 ·have d1 : (wh == 1) = false := by simp [h1]
  have e1 : decide (wh = 1) = false := by simp [h1]
  by_cases h2 : wh = 2
  ·have d2 : (wh == 2) = true := by simp [h2]
   have e2 : decide (wh = 2) = true := by simp [h2]
   have HX : Hd (endX R V wh r s cell = varX R V s) := by unfold Hd endX; rw [if_neg h1, if_pos h2]
   clear h1 h2
   go_wp2_with fail
   refine (variable_any P R V s ca cn cc wa).mono ?_
   rintro e w2 ⟨rfl, hF2⟩
   have HF2 : Hd (Fr (fun _ => False) w w2) := HF.out.trans hF2
   clear hF2 p0 p1 p2 p3 i1 i2
   go_wp2_with fail
   go_ret
   exact ⟨by rw [HX.out]; rfl, HF2.out⟩
  ·have d2 : (wh == 2) = false := by simp [h2]
   have e2 : decide (wh = 2) = false := by simp [h2]
   by_cases h3 : wh = 3
   ·have d3 : (wh == 3) = true := by simp [h3]
    have e3 : decide (wh = 3) = true := by simp [h3]
    have HX : Hd (endX R V wh r s cell = cell) := by unfold Hd endX; rw [if_neg h1, if_neg h2, if_pos h3]
    clear h1 h2 h3
    go_wp2_with fail
    go_ret
    exact ⟨by rw [HX.out]; rfl, HF.out⟩
   ·have d3 : (wh == 3) = false := by simp [h3]
    have e3 : decide (wh = 3) = false := by simp [h3]
    have HX : Hd (endX R V wh r s cell = 0) := by unfold Hd endX; rw [if_neg h1, if_neg h2, if_neg h3]
    clear h1 h2 h3
    go_wp2_with fail
    go_ret
    exact ⟨by rw [HX.out]; rfl, HF.out⟩
end Go.Proofs.YtdkijecnnmncnaaGreatDoor
namespace Go.Proofs.YtdkijecnnmncnaaGreatDoor
open Go.RowKit (wrap32 wrap64)
set_option linter.unusedVariables false
set_option linter.unusedSimpArgs false
set_option maxRecDepth 100000
set_option maxHeartbeats 2000000
def rowsX : List (Int × Int × Int × Int) := [(0, 0, 0, 0), (0, 0, 0, 0), (1, 1, 2, 0), (0, 0, 0, 0), (0, 0, 0, 0), (1, 1, 2, -1), (1, 1, 3, -1), (1, 1, 2, 1), (1, 0, 2, 0), (0, 0, 0, 0), (1, 0, 2, 0), (3, 0, 0, 0), (0, 0, 0, 0), (0, 0, 0, 0), (0, 0, 0, 0), (2, 0, 0, 0), (0, 0, 0, 0), (0, 0, 0, 0)]
def rowX (op : Nat) : Int × Int × Int × Int := rowsX.getD op (0, 0, 0, 0)
def RowsA (w : World) : Prop := ∀ op, op < 18 → w.cell? ⟨0, op * 4, none⟩ = some (vI (rowX op).1) ∧ w.cell? ⟨0, op * 4 + 1, none⟩ = some (vI (rowX op).2.1) ∧ w.cell? ⟨0, op * 4 + 2, none⟩ = some (vI (rowX op).2.2.1) ∧ w.cell? ⟨0, op * 4 + 3, none⟩ = some (vI (rowX op).2.2.2)
theorem RowsA.t {w : World} (h : RowsA w) : RowsT w := h 15 (by omega)
theorem RowsA.kept {w W : World} {n0 : Nat} (h : RowsA w) (k : KpA n0 w W) (h0 : 0 < n0) : RowsA W := fun op ho => by
 have tb : ∀ o, W.cell? ⟨0, o, none⟩ = w.cell? ⟨0, o, none⟩ := fun o => k.below.cell (p := ⟨0, o, none⟩) h0
 rw [tb, tb, tb, tb]
 exact h op ho
theorem given_none (n0 : Nat) (P R V : Int) (ca : Option Addr) (cn cc : Nat) (sa : Option Addr) (sn sc : Nat) (iv : IV) (op : Nat) (ho : op < 18) (hop : iv.op = op) (hr : (rowX op).1 = 0) (cell : Int) (w : World) (h0 : 0 < n0) (hn0 : n0 ≤ w.heap.size) (hT : RowsA w) :
 Given n0 (.agg #[vI P, vI R, vI V, .slice ca cn cc, .slice sa sn sc]) iv.val cell [] w := by
 intro W hK
 obtain ⟨t0, t1, t2, t3⟩ := (hT.kept hK h0) op ho
 rw [hr] at t0
 obtain ⟨op', r, s, t, n, aa, an, ac, ra, rn, rc⟩ := iv
 have hop : op' = (op : Int) := hop
 subst hop
 have ho0 : (0 : Int) ≤ op := by omega
 have ho1 : (op : Int) < 18 := by omega
 have hWp : 0 < W.heap.size := Nat.lt_of_lt_of_le h0 (Nat.le_trans hn0 hK.below.size)
 generalize (rowX op).2.1 = a1 at *
 generalize (rowX op).2.2.1 = a2 at *
 generalize (rowX op).2.2.2 = a3 at *
 clear hT hK hr hn0 h0
 go_enter Tryz.func125, Tryz.ntmps125
 go_wp2_with fail
 go_ret
 refine ⟨158, _, rfl, enters_of Tryz.func158 (by kernel_rfl) rfl, ?_, fun n => ?_⟩
 ·exact Fr.alloc (Fr.alloc (Fr.alloc (Fr.refl _ W) _) _) _
 ·exact none_gives n n0 _
end Go.Proofs.YtdkijecnnmncnaaGreatDoor
namespace Go.Proofs.YtdkijecnnmncnaaGreatDoor
open Go.ChangeShapes Go.WideShapes Go.ChangeAt Go.RowKit
set_option linter.unusedVariables false
set_option linter.unusedSimpArgs false
theorem knob : ownKnob Tryz.prog.godebug = none := by kernel_rfl
theorem laysOut : laidOutB Tryz.prog = true := by kernel_rfl
theorem gTab : Tryz.prog.globalNamed "fugue/code.numberSizes" = some 2 := by kernel_rfl
theorem gTabType : (Tryz.prog.globals[2]?).map (·.type) = some 247 := by kernel_rfl
theorem under138t : Tryz.prog.underlying 247 = some (.array 18 3) := by kernel_rfl
theorem cells138 : Tryz.prog.cellsOf 247 = 18 := by kernel_rfl
theorem gRow : Tryz.prog.globalNamed "fugue/flow.rows" = some 0 := by kernel_rfl
theorem gRowType : (Tryz.prog.globals[0]?).map (·.type) = some 210 := by kernel_rfl
theorem under100t : Tryz.prog.underlying 210 = some (.array 18 209) := by kernel_rfl
def fldp (name : String) (type offset byteOffset : Nat) : Field := { name := name, type := type, offset := offset, embedded := false, tag := "", pkgPath := "fugue/flow", byteOffset := byteOffset }
theorem under99t : Tryz.prog.underlying 209 = some (.struct #[fldp "how" 3 0 0, fldp "dst" 3 1 8, fldp "src" 3 2 16, fldp "derefs" 3 3 24]) := by kernel_rfl
theorem cells99 : Tryz.prog.cellsOf 209 = 4 := by kernel_rfl
theorem under4 : Tryz.prog.underlying 4 = some .bool := by kernel_rfl
theorem laid_tail {P : Program} {x : String × DataW Unit} {r : List (String × DataW Unit)} {w : World} (h : laidMet P (x :: r) w) : laidMet P r w := by
 obtain ⟨ps, hv, hnd, hrows⟩ := h
 obtain ⟨n, d⟩ := x
 obtain ⟨g, t, cs, fuel, p, q, _, _, _, _, hq, rfl⟩ := hv
 exact ⟨q, hq, List.Nodup.sublist (List.sublist_append_right _ _) hnd, fun b off hm => hrows b off (List.mem_append_right _ hm)⟩
theorem tab_of {W : World} (h : laidMetH Tryz.prog Rows.solveGrowsRow.laid W) : Tab W := by
 have ht : Lib.TabIs Tryz.prog W "fugue/code.numberSizes" .i64 [0, 8, 0, 0, 0, 0, 1, 1, 1, 1, 1, 2, 0, 2, 2, 0, 0, 0] := Lib.tabIs_of_head (rest := [("fugue/flow.rows", Rows.laid_fugue_flow_rows)]) gTab gTabType under138t und3 cel3 cells138 h
 intro op hop
 have hc := ht.cell gTab op (by simpa using hop)
 rw [hc]
 simp only [Option.some.injEq, Value.int.injEq, true_and]
 match op, hop with
 | 0, _ | 1, _ | 2, _ | 3, _ | 4, _ | 5, _ | 6, _ | 7, _ | 8, _ | 9, _ | 10, _ | 11, _ | 12, _ | 13, _ | 14, _ | 15, _ | 16, _ | 17, _ => rfl
 | n + 18, h => exact absurd h (by omega)
theorem four_of {H : Type} {enc : TypeId × Value → H} {w : World} {base : Nat} {sp : Nat → Bool} {held : Bool} {fuel : Nat} {cs : List Value} {p : List MemPlace} {a b c d : Int} (h : DataW.trod enc Tryz.prog w base sp held fuel 209 cs = some (.agg [.lit (.int .i64 a), .lit (.int .i64 b), .lit (.int .i64 c), .lit (.int .i64 d)], p)) : cs = [vI a, vI b, vI c, vI d] := by
 obtain ⟨xs, k, -, hx, hcl, hxl, hf⟩ := DataW.trod_struct under99t h
 rw [cells99] at hcl
 have hxl : xs.length = 4 := hxl
 obtain ⟨c0, r0, rfl, hl1⟩ := len_cons hcl
 obtain ⟨c1, r1, rfl, hl2⟩ := len_cons hl1
 obtain ⟨c2, r2, rfl, hl3⟩ := len_cons hl2
 obtain ⟨c3, r3, rfl, hl4⟩ := len_cons hl3
 obtain rfl := List.length_eq_zero_iff.1 hl4
 have g0 := hf 0 (fldp "how" 3 0 0) rfl
 have g1 := hf 1 (fldp "dst" 3 1 8) rfl
 have g2 := hf 2 (fldp "src" 3 2 16) rfl
 have g3 := hf 3 (fldp "derefs" 3 3 24) rfl
 match xs, hxl with
 | [y0, y1, y2, y3], _ =>
 have hx := congrArg Prod.fst hx
 simp only [List.map_cons, List.map_nil, DataW.agg.injEq, List.cons.injEq, and_true] at hx
 obtain ⟨e0, e1, e2, e3⟩ := hx
 simp only [fldp, cel3, List.drop_zero, List.drop_succ_cons, List.take_succ_cons, List.take_zero, List.getElem?_cons_zero, List.getElem?_cons_succ] at g0 g1 g2 g3
 obtain ⟨z0, q0, h0, -⟩ := DataW.trod_int und3 g0
 obtain ⟨z1, q1, h1, -⟩ := DataW.trod_int und3 g1
 obtain ⟨z2, q2, h2, -⟩ := DataW.trod_int und3 g2
 obtain ⟨z3, q3, h3, -⟩ := DataW.trod_int und3 g3
 subst h0 h1 h2 h3
 simp only [DataW.lit.injEq, Lit.int.injEq, true_and] at e0 e1 e2 e3
 subst e0 e1 e2 e3
 rw [(List.cons.inj q0).1, (List.cons.inj q1).1, (List.cons.inj q2).1, (List.cons.inj q3).1]
def aggAt (d : DataW Unit) (i : Nat) : Option (DataW Unit) := match d with | .agg l => l[i]? | _ => none
theorem rowsA_of {W : World} (h : laidMetH Tryz.prog Rows.solveGrowsRow.laid W) : RowsA W := by
 have h' : laidMet Tryz.prog [("fugue/code.numberSizes", Rows.laid_fugue_code_numberSizes), ("fugue/flow.rows", Rows.laid_fugue_flow_rows)] W := h
 obtain ⟨ps, ⟨g', t', cs, fuel, p, q, hg', ht', hvar, hd, _, _⟩, _⟩ := laid_tail h'
 obtain rfl := Option.some.inj (gRow.symm.trans hg')
 obtain rfl := Option.some.inj (gRowType.symm.trans ht')
 obtain ⟨xs, m, -, hx, hcl, hxl, hf⟩ := DataW.trod_array under100t hd
 have key : ∀ (op : Nat) (a b c d : Int), op < 18 → aggAt Rows.laid_fugue_flow_rows op = some (.agg [.lit (.int .i64 a), .lit (.int .i64 b), .lit (.int .i64 c), .lit (.int .i64 d)]) → W.cell? ⟨0, op * 4, none⟩ = some (vI a) ∧ W.cell? ⟨0, op * 4 + 1, none⟩ = some (vI b) ∧ W.cell? ⟨0, op * 4 + 2, none⟩ = some (vI c) ∧ W.cell? ⟨0, op * 4 + 3, none⟩ = some (vI d) := fun op a b c d hop he => by
  have g15 := hf op (by omega)
  rw [cells99] at g15
  have e15 : xs[op]?.map (·.1) = some (.agg [.lit (.int .i64 a), .lit (.int .i64 b), .lit (.int .i64 c), .lit (.int .i64 d)]) := by
   have hx : Rows.laid_fugue_flow_rows = .agg (xs.map (·.1)) := congrArg Prod.fst hx
   rw [hx] at he
   rw [← List.getElem?_map]
   exact he
  obtain ⟨⟨y, yp⟩, hy, rfl⟩ := Option.map_eq_some_iff.1 e15
  rw [hy] at g15
  have h4 := four_of g15
  have cc : ∀ i, i < 4 → W.cell? ⟨0, op * 4 + i, none⟩ = [vI a, vI b, vI c, vI d][i]? := fun i hi => by
   have h1 := World.var?_cell gRow hvar (op * 4 + i)
   rw [h1, ← h4]
   simp [List.getElem?_take, List.getElem?_drop, hi]
  exact ⟨cc 0 (by omega), cc 1 (by omega), cc 2 (by omega), cc 3 (by omega)⟩
 intro op hop
 match op, hop with
 | 0, _ => exact key 0 _ _ _ _ (by omega) rfl
 | 1, _ => exact key 1 _ _ _ _ (by omega) rfl
 | 2, _ => exact key 2 _ _ _ _ (by omega) rfl
 | 3, _ => exact key 3 _ _ _ _ (by omega) rfl
 | 4, _ => exact key 4 _ _ _ _ (by omega) rfl
 | 5, _ => exact key 5 _ _ _ _ (by omega) rfl
 | 6, _ => exact key 6 _ _ _ _ (by omega) rfl
 | 7, _ => exact key 7 _ _ _ _ (by omega) rfl
 | 8, _ => exact key 8 _ _ _ _ (by omega) rfl
 | 9, _ => exact key 9 _ _ _ _ (by omega) rfl
 | 10, _ => exact key 10 _ _ _ _ (by omega) rfl
 | 11, _ => exact key 11 _ _ _ _ (by omega) rfl
 | 12, _ => exact key 12 _ _ _ _ (by omega) rfl
 | 13, _ => exact key 13 _ _ _ _ (by omega) rfl
 | 14, _ => exact key 14 _ _ _ _ (by omega) rfl
 | 15, _ => exact key 15 _ _ _ _ (by omega) rfl
 | 16, _ => exact key 16 _ _ _ _ (by omega) rfl
 | 17, _ => exact key 17 _ _ _ _ (by omega) rfl
 | n + 18, h => exact absurd h (by omega)
theorem cel31 : Tryz.prog.cellsOf 30 = 1 := by kernel_rfl
theorem cel34 : Tryz.prog.cellsOf 33 = 2 := by kernel_rfl
theorem cel22 : Tryz.prog.cellsOf 22 = 1 := by kernel_rfl
theorem cel32 : Tryz.prog.cellsOf 31 = 1 := by kernel_rfl
theorem cel24 : Tryz.prog.cellsOf 24 = 2 := by kernel_rfl
theorem byt31 : Tryz.prog.bytesOf 30 = 24 := by kernel_rfl
theorem byt34 : Tryz.prog.bytesOf 33 = 48 := by kernel_rfl
theorem und34 : Tryz.prog.underlying 33 = some (.struct #[fld "Heap" 30 0 0, fld "Result" 31 1 24]) := by kernel_rfl
theorem und24 : Tryz.prog.underlying 24 = some (.struct #[fld "Globals" 3 0 0, fld "Funcs" 22 1 8]) := by kernel_rfl
section
variable {H : Type} {enc : TypeId × Value → H} {W : World} {n : Nat} {x : DataW H × List MemPlace}
theorem funcs_sz {c : Value} (h : DataW.trod enc Tryz.prog W 0 (fun _ => true) true n 22 [c] = some x) (hx : Szd x.1 22) : ∃ l, FA W c l ∧ FineP l := by
 obtain ⟨l, hl, a, cp, e, hh⟩ := rows_sz under24 cel67 byt67 (by omega) h hx (⟨0, 0, 0, []⟩ : PF) (IsFz W) (fun n cs y hy hs => func_sz hy hs)
 have hr := reach_is
 refine ⟨l, ⟨a, cp, e, fun hne => ?_⟩, by omega, fun f hf => ?_⟩
 ·obtain ⟨k, o, ea, hk, hc⟩ := hh hne
  refine ⟨k, o, ea, hk, fun j hj => ?_⟩
  obtain ⟨cs, ⟨cv, rfl, h2, -⟩, h1⟩ := hc j hj
  exact ⟨cv, h1 0 (by omega), h1 1 (by omega), h1 2 (by omega), h1 3 (by omega), h2⟩
 ·obtain ⟨j, hj, rfl⟩ := List.getElem_of_mem hf
  obtain ⟨k, o, ea, hk, hcc⟩ := hh (by intro e; simp [e] at hj)
  obtain ⟨cs, ⟨cv, -, -, h4⟩, -⟩ := hcc j hj
  exact h4
theorem lists_sz {c : Value} (h : DataW.trod enc Tryz.prog W 0 (fun _ => true) true n 31 [c] = some x) (hx : Szd x.1 31) : ∃ l, LA W c l ∧ l.length ≤ 5864062014634 ∧ ∀ z ∈ l, z.length ≤ 17592186043904 := by
 obtain ⟨l, hl, a, cp, e, hh⟩ := rows_sz underL32 cel31 byt31 (by omega) h hx ([] : List Int) (fun q cs => ∃ u, cs = [u] ∧ IA W u q ∧ q.length ≤ 17592186043904) (fun n cs y hy hs => by
  obtain ⟨u, rfl⟩ : ∃ u, cs = [u] := by
   rcases Deep.open_slice under64 hy with ⟨hcs, -⟩ | ⟨a, len, cap, m, k, D, Pl, hcs, -⟩ <;> exact ⟨_, hcs⟩
  obtain ⟨q, h1, h2⟩ := ints_sz hy hs
  exact ⟨q, u, rfl, h1, h2⟩)
 have hr := reach_is
 refine ⟨l, ⟨a, cp, e, fun hne => ?_⟩, by omega, fun z hz => ?_⟩
 ·obtain ⟨k, o, ea, hk, hc⟩ := hh hne
  refine ⟨k, o, ea, hk, fun j hj => ?_⟩
  obtain ⟨cs, ⟨u, rfl, h2, -⟩, h1⟩ := hc j hj
  have := h1 0 (by omega)
  rw [Nat.mul_one, Nat.add_zero] at this
  exact ⟨u, this, h2⟩
 ·obtain ⟨j, hj, rfl⟩ := List.getElem_of_mem hz
  obtain ⟨k, o, ea, hk, hcc⟩ := hh (by intro e; simp [e] at hj)
  obtain ⟨cs, ⟨u, -, -, h4⟩, -⟩ := hcc j hj
  exact h4
def IsSz (W : World) (s : PS) (cs : List Value) : Prop := ∃ hv rv, cs = [hv, rv] ∧ IA W hv s.H ∧ LA W rv s.R ∧ s.H.length ≤ 17592186043904 ∧ s.R.length ≤ 5864062014634 ∧ ∀ l ∈ s.R, l.length ≤ 17592186043904
theorem sum_sz {cs : List Value} (h : DataW.trod enc Tryz.prog W 0 (fun _ => true) true n 33 cs = some x) (hx : Szd x.1 33) : ∃ s : PS, IsSz W s cs := by
 obtain ⟨xs, k, -, rfl, hcl, hxl, hf⟩ := DataW.trod_struct und34 h
 rw [cel34] at hcl
 have hxl : xs.length = 2 := hxl
 obtain ⟨c0, r0, rfl, hl1⟩ := len_cons hcl
 obtain ⟨c1, r1, rfl, hl2⟩ := len_cons hl1
 obtain rfl := List.length_eq_zero_iff.1 hl2
 have g0 := hf 0 (fld "Heap" 30 0 0) rfl
 have g1 := hf 1 (fld "Result" 31 1 24) rfl
 have ee : ∀ i (hi : i < 2), xs[i]? = some (xs[i]'(by omega)) := fun i hi => List.getElem?_eq_getElem (by omega)
 rw [ee 0 (by omega)] at g0
 rw [ee 1 (by omega)] at g1
 simp only [fld, cel31, cel32, List.drop_zero, List.drop_succ_cons, List.take_succ_cons, List.take_zero] at g0 g1
 have bb : ∀ i (hi : i < 2) u, (#[fld "Heap" 30 0 0, fld "Result" 31 1 24].toList.map (·.type))[i]? = some u → Szd (xs[i]'(by omega)).1 u := fun i hi u hu q hq => by
  apply hx
  simp only [DataW.weights, und34]
  exact DataW.weights_mem_each (j := i) (t := u) (d := (xs[i]'(by omega)).1) hu (by rw [List.getElem?_map, ee i hi]; rfl) q hq
 obtain ⟨la, hA, hla⟩ := ints_sz g0 (bb 0 (by omega) 30 rfl)
 obtain ⟨lr, hR, hlr, hlz⟩ := lists_sz g1 (bb 1 (by omega) 31 rfl)
 exact ⟨⟨la, lr⟩, c0, c1, rfl, hA, hR, hla, hlr, hlz⟩
theorem sums_sz {c : Value} (h : DataW.trod enc Tryz.prog W 0 (fun _ => true) true n 25 [c] = some x) (hx : Szd x.1 25) : ∃ l, SsA W c l ∧ FineS l := by
 obtain ⟨l, hl, a, cp, e, hh⟩ := rows_sz under25 cel34 byt34 (by omega) h hx (⟨[], []⟩ : PS) (IsSz W) (fun n cs y hy hs => sum_sz hy hs)
 have hr := reach_is
 refine ⟨l, ⟨a, cp, e, fun hne => ?_⟩, by omega, fun s hs => ?_⟩
 ·obtain ⟨k, o, ea, hk, hc⟩ := hh hne
  refine ⟨k, o, ea, hk, fun j hj => ?_⟩
  obtain ⟨cs, ⟨hv, rv, rfl, h2, h3, -⟩, h1⟩ := hc j hj
  exact ⟨hv, rv, h1 0 (by omega), h1 1 (by omega), h2, h3⟩
 ·obtain ⟨j, hj, rfl⟩ := List.getElem_of_mem hs
  obtain ⟨k, o, ea, hk, hcc⟩ := hh (by intro e; simp [e] at hj)
  obtain ⟨cs, ⟨hv, rv, -, -, -, h4⟩, -⟩ := hcc j hj
  exact h4
theorem prog_sz {cs : List Value} (h : DataW.trod enc Tryz.prog W 0 (fun _ => true) true n 24 cs = some x) (hx : Szd x.1 24) : ∃ (G : Int) (fv : Value) (fs : List PF), cs = [vI G, fv] ∧ FA W fv fs ∧ FineP fs := by
 obtain ⟨xs, k, -, rfl, hcl, hxl, hf⟩ := DataW.trod_struct und24 h
 rw [cel24] at hcl
 have hxl : xs.length = 2 := hxl
 obtain ⟨c0, r0, rfl, hl1⟩ := len_cons hcl
 obtain ⟨c1, r1, rfl, hl2⟩ := len_cons hl1
 obtain rfl := List.length_eq_zero_iff.1 hl2
 have g0 := hf 0 (fld "Globals" 3 0 0) rfl
 have g1 := hf 1 (fld "Funcs" 22 1 8) rfl
 have ee : ∀ i (hi : i < 2), xs[i]? = some (xs[i]'(by omega)) := fun i hi => List.getElem?_eq_getElem (by omega)
 rw [ee 0 (by omega)] at g0
 rw [ee 1 (by omega)] at g1
 simp only [fld, cel3, cel22, List.drop_zero, List.drop_succ_cons, List.take_succ_cons, List.take_zero] at g0 g1
 obtain ⟨z0, rfl⟩ := int_of g0
 have bb : Szd (xs[1]'(by omega)).1 22 := fun q hq => by
  apply hx
  simp only [DataW.weights, und24]
  exact DataW.weights_mem_each (j := 1) (t := 22) (d := (xs[1]'(by omega)).1) rfl (by rw [List.getElem?_map, ee 1 (by omega)]; rfl) q hq
 obtain ⟨fs, hF, hP⟩ := funcs_sz g1 bb
 exact ⟨z0, c1, fs, rfl, hF, hP⟩
end
end Go.Proofs.YtdkijecnnmncnaaGreatDoor
namespace Go.Proofs.YtdkijecnnmncnaaGreatDoor
open Go.RowKit (wrap32 wrap64)
set_option linter.unusedVariables false
set_option linter.unusedSimpArgs false
theorem measW {i n : Nat} (h : i < n) : n - ((i : Int) + 1).toNat < n - (i : Int).toNat := by omega
theorem castW (i : Nat) : Value.int .i64 ((i : Int) + 1) = Value.int .i64 ((i + 1 : Nat) : Int) := by simp
end Go.Proofs.YtdkijecnnmncnaaGreatDoor
