import Derived.Test.YtlmlmhinbkcpoaaDoorQQ4
import Derived.Deep.RegionHeld3
namespace Go.Proofs.YtlmlmhinbkcpoaaDoor
open Go.RowKit Go.Shelf
set_option linter.unusedVariables false
set_option linter.unusedSimpArgs false
attribute [local go_sem] Oper.semAt_some

set_option maxRecDepth 100000 in
/-- The function that 'only' hands over. -/
theorem only1_in (n l n0 Ba : Nat) (x : Ed) (W : World) (J : List Ed → World → Prop)
    (hY : ∀ pre x W, J pre W → pre.length < 1 → YieldAt Fence.wide (n - 1) Tryd.prog l (encE x) W fun e W' => e = .returned (.bool true) ∧ J (pre ++ [x]) W' ∧ KpA n0 W W')
    (hBa : W.heap[Ba]? = some (.cells #[vI x.1, vI x.2.1, vI x.2.2] 47)) (h0 : J [] W) :
    CallsIn Fence.wide n Tryd.prog 82 #[.func (.yield l) #[] #[], .pointer (some ⟨Ba, 0, none⟩)] W fun e W' => (∃ v, e = .returned v) ∧ J [x] W' := by
  have q0 : W.cell? ⟨Ba, 0, none⟩ = some (vI x.1) := by rw [cell_of0 hBa]; rfl
  have q1 : W.cell? ⟨Ba, 1, none⟩ = some (vI x.2.1) := by rw [cell_of0 hBa]; rfl
  have q2 : W.cell? ⟨Ba, 2, none⟩ = some (vI x.2.2) := by rw [cell_of0 hBa]; rfl
  obtain ⟨fn, tmps, assign, body, hy, hR⟩ := hY [] x W h0 (by simp)
  refine callsIn_of_wp Tryd.func82 rfl trivial ?_ rfl
  simp only [Tryd.ntmps82, List.size_toArray, List.length_cons, List.length_nil, Nat.reduceAdd, Nat.reduceSub, Array.replicate_succ, Array.replicate_zero, List.push_toArray, List.append_toArray, List.nil_append, List.cons_append]
  gi_wp2
  refine ⟨(fun h => by cases h), hR.mono ?_⟩
  rintro e W3 ⟨rfl, hJ3, hk3⟩
  gi_wp2
  go_end0
  exact ⟨⟨_, rfl⟩, hJ3⟩

theorem only_gives (n n0 Ba : Nat) (x : Ed) (w : World) (hBa : w.heap[Ba]? = some (.cells #[vI x.1, vI x.2.1, vI x.2.2] 47)) :
    SeqGivesC Fence.wide n Tryd.prog 82 #[] #[.pointer (some ⟨Ba, 0, none⟩)] encE (fun _ => KpA n0) (fun xs => xs = [x]) 1 w := fun l J W hW _ hl hJ hY h0 =>
  (only1_in n l n0 Ba x W J hY ((hW.block Ba (heap_lt0 hBa)).trans hBa) h0).mono (fun e W' ⟨he, hj⟩ => ⟨he, _, rfl, hj⟩)

set_option maxRecDepth 100000 in
theorem none_gives (n n0 : Nat) (w : World) : SeqGivesC Fence.wide n Tryd.prog 68 #[] #[] encE (fun _ => KpA n0) (fun xs => xs = []) 0 w := fun l J W hW _ hl hJ hY h0 => by
  refine callsIn_of_wp Tryd.func68 rfl trivial ?_ rfl
  simp only [Tryd.ntmps68, List.size_toArray, List.length_cons, List.length_nil, Nat.reduceAdd, Nat.reduceSub, Array.replicate_succ, Array.replicate_zero, List.push_toArray, List.append_toArray, List.nil_append, List.cons_append]
  gi_wp2
  go_end0
  exact ⟨⟨_, rfl⟩, h0⟩

theorem only_any (x : Ed) (w : World) : Calls Tryd.prog 64 (encE x) w fun e w' => e = .returned (.func (.func 82) #[] #[.pointer (some ⟨w.heap.size, 0, none⟩)]) ∧ w' = w.alloc (.cells #[vI x.1, vI x.2.1, vI x.2.2] 47) := by
  go_enter Tryd.func64, Tryd.ntmps64
  go_wp2
  go_ret
  exact ⟨rfl, rfl⟩

/-- An end of an edge, as the table names it. -/
def endX (R V wh r s cell : Int) : Int := if wh = 1 then varX R V r else if wh = 2 then varX R V s else if wh = 3 then cell else 0

set_option maxRecDepth 100000 in
set_option maxHeartbeats 2000000 in
theorem end_any (P R V : Int) (ca : Option Addr) (cn cc : Nat) (sa : Option Addr) (sn sc : Nat) (iv : IV) (wh cell : Int) (w : World) :
    Calls Tryd.prog 65 #[.agg #[vI P, vI R, vI V, .slice ca cn cc, .slice sa sn sc], vI wh, iv.val, vI cell] w fun e w' => e = .returned (vI (endX R V wh iv.r iv.s cell)) ∧ Fr (fun _ => False) w w' := by
  obtain ⟨op, r, s, t, n, aa, an, ac, ra, rn, rc⟩ := iv
  obtain ⟨wa, hwa⟩ : ∃ wa, wa = (w.alloc (.cells #[vI P, vI R, vI V, .slice ca cn cc, .slice sa sn sc] 63)).alloc (.cells #[vI op, vI r, vI s, vI t, vI n, .slice aa an ac, .slice ra rn rc] 57) := ⟨_, rfl⟩
  have hF : Fr (fun _ => False) w wa := by rw [hwa]; exact Fr.alloc (Fr.alloc (Fr.refl _ w) _) _
  have b0 : wa.heap[w.heap.size]? = some (.cells #[vI P, vI R, vI V, .slice ca cn cc, .slice sa sn sc] 63) := by rw [hwa, Go.RowKit.Below.heap_alloc _ _ _ (by simp)]; exact heap_new0 w _
  have b1 : wa.heap[w.heap.size + 1]? = some (.cells #[vI op, vI r, vI s, vI t, vI n, .slice aa an ac, .slice ra rn rc] 57) := by
    have := heap_new0 (w.alloc (.cells #[vI P, vI R, vI V, .slice ca cn cc, .slice sa sn sc] 63)) (.cells #[vI op, vI r, vI s, vI t, vI n, .slice aa an ac, .slice ra rn rc] 57)
    rw [World.size_alloc] at this
    rw [hwa]; exact this
  have HWA : Hd (wa = (w.alloc (.cells #[vI P, vI R, vI V, .slice ca cn cc, .slice sa sn sc] 63)).alloc (.cells #[vI op, vI r, vI s, vI t, vI n, .slice aa an ac, .slice ra rn rc] 57)) := hwa
  obtain ⟨H, hH⟩ : ∃ H, H = w.heap.size := ⟨_, rfl⟩
  have HH : Hd (H = w.heap.size) := hH
  rw [← hH] at b0 b1
  have p0 : wa.cell? ⟨H, 0, none⟩ = some (vI P) := by rw [cell_of0 b0]; rfl
  have p1 : wa.cell? ⟨H, 1, none⟩ = some (vI R) := by rw [cell_of0 b0]; rfl
  have p2 : wa.cell? ⟨H, 2, none⟩ = some (vI V) := by rw [cell_of0 b0]; rfl
  have p3 : wa.cell? ⟨H, 3, none⟩ = some (.slice ca cn cc) := by rw [cell_of0 b0]; rfl
  have i1 : wa.cell? ⟨H + 1, 1, none⟩ = some (vI r) := by rw [cell_of0 b1]; rfl
  have i2 : wa.cell? ⟨H + 1, 2, none⟩ = some (vI s) := by rw [cell_of0 b1]; rfl
  have HF : Hd (Fr (fun _ => False) w wa) := hF
  clear hwa hF b0 b1 hH
  go_enter Tryd.func65, Tryd.ntmps65
  go_upto_region 1 with fail
  rw [← HWA.out, ← HH.out]
  clear HWA HH
  by_cases h1 : wh = 1
  · have d1 : (wh == 1) = true := by simp [h1]
    have e1 : decide (wh = 1) = true := by simp [h1]
    have HX : Hd (endX R V wh r s cell = varX R V r) := by unfold Hd endX; rw [if_pos h1]
    clear h1
    go_wp2_with fail
    refine (variable_any P R V r ca cn cc wa).mono ?_
    rintro e w2 ⟨rfl, hF2⟩
    have HF2 : Hd (Fr (fun _ => False) w w2) := HF.out.trans hF2
    clear hF2 p0 p1 p2 p3 i1 i2
    go_wp2_with fail
    go_ret
    exact ⟨by rw [HX.out]; rfl, HF2.out⟩
  · have d1 : (wh == 1) = false := by simp [h1]
    have e1 : decide (wh = 1) = false := by simp [h1]
    by_cases h2 : wh = 2
    · have d2 : (wh == 2) = true := by simp [h2]
      have e2 : decide (wh = 2) = true := by simp [h2]
      have HX : Hd (endX R V wh r s cell = varX R V s) := by unfold Hd endX; rw [if_neg h1, if_pos h2]
      clear h1 h2
      go_wp2_with fail
      refine (variable_any P R V s ca cn cc wa).mono ?_
      rintro e w2 ⟨rfl, hF2⟩
      have HF2 : Hd (Fr (fun _ => False) w w2) := HF.out.trans hF2
      clear hF2 p0 p1 p2 p3 i1 i2
      go_wp2_with fail
      go_ret
      exact ⟨by rw [HX.out]; rfl, HF2.out⟩
    · have d2 : (wh == 2) = false := by simp [h2]
      have e2 : decide (wh = 2) = false := by simp [h2]
      by_cases h3 : wh = 3
      · have d3 : (wh == 3) = true := by simp [h3]
        have e3 : decide (wh = 3) = true := by simp [h3]
        have HX : Hd (endX R V wh r s cell = cell) := by unfold Hd endX; rw [if_neg h1, if_neg h2, if_pos h3]
        clear h1 h2 h3
        go_wp2_with fail
        go_ret
        exact ⟨by rw [HX.out]; rfl, HF.out⟩
      · have d3 : (wh == 3) = false := by simp [h3]
        have e3 : decide (wh = 3) = false := by simp [h3]
        have HX : Hd (endX R V wh r s cell = 0) := by unfold Hd endX; rw [if_neg h1, if_neg h2, if_neg h3]
        clear h1 h2 h3
        go_wp2_with fail
        go_ret
        exact ⟨by rw [HX.out]; rfl, HF.out⟩

end Go.Proofs.YtlmlmhinbkcpoaaDoor

namespace Go.Proofs.YtlmlmhinbkcpoaaDoor
open Go.RowKit (wrap32 wrap64)
set_option linter.unusedVariables false
set_option linter.unusedSimpArgs false

/-- The package's table, row by row. -/
def rowsX : List (Int × Int × Int × Int) := [(0, 0, 0, 0), (0, 0, 0, 0), (1, 1, 2, 0), (0, 0, 0, 0), (0, 0, 0, 0), (1, 1, 2, -1), (1, 1, 3, -1), (1, 1, 2, 1), (1, 0, 2, 0), (0, 0, 0, 0), (1, 0, 2, 0), (3, 0, 0, 0), (0, 0, 0, 0), (0, 0, 0, 0), (0, 0, 0, 0), (2, 0, 0, 0), (0, 0, 0, 0), (0, 0, 0, 0)]
def rowX (op : Nat) : Int × Int × Int × Int := rowsX.getD op (0, 0, 0, 0)
def RowsA (w : World) : Prop := ∀ op, op < 18 → w.cell? ⟨0, op * 4, none⟩ = some (vI (rowX op).1) ∧ w.cell? ⟨0, op * 4 + 1, none⟩ = some (vI (rowX op).2.1) ∧ w.cell? ⟨0, op * 4 + 2, none⟩ = some (vI (rowX op).2.2.1) ∧ w.cell? ⟨0, op * 4 + 3, none⟩ = some (vI (rowX op).2.2.2)
theorem RowsA.t {w : World} (h : RowsA w) : RowsT w := h 15 (by omega)
theorem RowsA.kept {w W : World} {n0 : Nat} (h : RowsA w) (k : KpA n0 w W) (h0 : 0 < n0) : RowsA W := fun op ho => by
  have tb : ∀ o, W.cell? ⟨0, o, none⟩ = w.cell? ⟨0, o, none⟩ := fun o => k.below.cell (p := ⟨0, o, none⟩) h0
  rw [tb, tb, tb, tb]
  exact h op ho

set_option maxRecDepth 100000 in
set_option maxHeartbeats 2000000 in
/-- An operation that gives no edge. -/
theorem given_none (n0 : Nat) (P R V : Int) (ca : Option Addr) (cn cc : Nat) (sa : Option Addr) (sn sc : Nat) (iv : IV) (op : Nat) (ho : op < 18) (hop : iv.op = op) (hr : (rowX op).1 = 0) (cell : Int) (w : World) (h0 : 0 < n0) (hn0 : n0 ≤ w.heap.size) (hT : RowsA w) :
    Given n0 (.agg #[vI P, vI R, vI V, .slice ca cn cc, .slice sa sn sc]) iv.val cell [] w := by
  intro W hK
  obtain ⟨t0, t1, t2, t3⟩ := (hT.kept hK h0) op ho
  rw [hr] at t0
  obtain ⟨op', r, s, t, n, aa, an, ac, ra, rn, rc⟩ := iv
  have hop : op' = (op : Int) := hop
  subst hop
  have ho0 : (0 : Int) ≤ op := by omega
  have ho1 : (op : Int) < 18 := by omega
  have hWp : 0 < W.heap.size := Nat.lt_of_lt_of_le h0 (Nat.le_trans hn0 hK.below.size)
  generalize (rowX op).2.1 = a1 at *
  generalize (rowX op).2.2.1 = a2 at *
  generalize (rowX op).2.2.2 = a3 at *
  clear hT hK hr hn0 h0
  go_enter Tryd.func46, Tryd.ntmps46
  go_wp2_with fail
  go_ret
  refine ⟨68, _, rfl, enters_of Tryd.func68 (by kernel_rfl) rfl, ?_, fun n => ?_⟩
  · exact Fr.alloc (Fr.alloc (Fr.alloc (Fr.refl _ W) _) _) _
  · exact none_gives n n0 _

end Go.Proofs.YtlmlmhinbkcpoaaDoor

namespace Go.Proofs.YtlmlmhinbkcpoaaDoor
open Go.RowKit (wrap32 wrap64)
set_option linter.unusedVariables false
set_option linter.unusedSimpArgs false

theorem alloc2 (w : World) (o p : Obj) : ((w.alloc o).alloc p).heap[w.heap.size]? = some o ∧ ((w.alloc o).alloc p).heap[w.heap.size + 1]? = some p := by
  constructor
  · rw [Go.RowKit.Below.heap_alloc _ _ _ (by simp)]; exact heap_new0 w _
  · have := heap_new0 (w.alloc o) p
    rw [World.size_alloc] at this
    exact this

theorem alloc3 (w : World) (o p q : Obj) : (((w.alloc o).alloc p).alloc q).heap[w.heap.size]? = some o ∧ (((w.alloc o).alloc p).alloc q).heap[w.heap.size + 1]? = some p ∧ (((w.alloc o).alloc p).alloc q).heap[w.heap.size + 2]? = some q := by
  have f : Fr (fun _ => False) ((w.alloc o).alloc p) (((w.alloc o).alloc p).alloc q) := Fr.alloc (Fr.refl _ _) q
  obtain ⟨h1, h2⟩ := alloc2 w o p
  refine ⟨(f.block _ (heap_lt0 h1) (fun e => e)).trans h1, (f.block _ (heap_lt0 h2) (fun e => e)).trans h2, ?_⟩
  have := heap_new0 ((w.alloc o).alloc p) q
  rw [World.size_alloc, World.size_alloc] at this
  exact this

set_option maxRecDepth 100000 in
set_option maxHeartbeats 4000000 in
/-- An operation that gives one edge. -/
theorem given_one (n0 : Nat) (P R V : Int) (ca : Option Addr) (cn cc : Nat) (sa : Option Addr) (sn sc : Nat) (iv : IV) (op : Nat) (ho : op < 18) (hop : iv.op = op) (hr : (rowX op).1 = 1) (cell : Int) (w : World) (h0 : 0 < n0) (hn0 : n0 ≤ w.heap.size) (hT : RowsA w) :
    Given n0 (.agg #[vI P, vI R, vI V, .slice ca cn cc, .slice sa sn sc]) iv.val cell [(endX R V (rowX op).2.1 iv.r iv.s cell, endX R V (rowX op).2.2.1 iv.r iv.s cell, (rowX op).2.2.2)] w := by
  intro W hK
  obtain ⟨t0, t1, t2, t3⟩ := (hT.kept hK h0) op ho
  rw [hr] at t0
  obtain ⟨op', r, s, t, n, aa, an, ac, ra, rn, rc⟩ := iv
  have hop : op' = (op : Int) := hop
  subst hop
  have ho0 : (0 : Int) ≤ op := by omega
  have ho1 : (op : Int) < 18 := by omega
  have hWp : 0 < W.heap.size := Nat.lt_of_lt_of_le h0 (Nat.le_trans hn0 hK.below.size)
  generalize (rowX op).2.1 = a1 at *
  generalize (rowX op).2.2.1 = a2 at *
  generalize (rowX op).2.2.2 = a3 at *
  clear hT hK hr hn0 h0
  obtain ⟨wa, hwa⟩ : ∃ wa, wa = ((W.alloc (.cells #[vI P, vI R, vI V, .slice ca cn cc, .slice sa sn sc] 63)).alloc (.cells #[vI op, vI r, vI s, vI t, vI n, .slice aa an ac, .slice ra rn rc] 57)).alloc (.cells #[vI 1, vI a1, vI a2, vI a3] 99) := ⟨_, rfl⟩
  have hF : Fr (fun _ => False) W wa := by rw [hwa]; exact Fr.alloc (Fr.alloc (Fr.alloc (Fr.refl _ W) _) _) _
  obtain ⟨b0, b1, b2⟩ := alloc3 W (.cells #[vI P, vI R, vI V, .slice ca cn cc, .slice sa sn sc] 63) (.cells #[vI op, vI r, vI s, vI t, vI n, .slice aa an ac, .slice ra rn rc] 57) (.cells #[vI 1, vI a1, vI a2, vI a3] 99)
  rw [← hwa] at b0 b1 b2
  have HWA : Hd (wa = ((W.alloc (.cells #[vI P, vI R, vI V, .slice ca cn cc, .slice sa sn sc] 63)).alloc (.cells #[vI op, vI r, vI s, vI t, vI n, .slice aa an ac, .slice ra rn rc] 57)).alloc (.cells #[vI 1, vI a1, vI a2, vI a3] 99)) := hwa
  obtain ⟨H, hH⟩ : ∃ H, H = W.heap.size := ⟨_, rfl⟩
  have HH : Hd (H = W.heap.size) := hH
  rw [← hH] at b0 b1 b2
  have HF : Hd (Fr (fun _ => False) W wa) := hF
  have HS : Hd (∀ wx, Fr (fun _ => False) wa wx → wx.heap[H]? = some (.cells #[vI P, vI R, vI V, .slice ca cn cc, .slice sa sn sc] 63) ∧ wx.heap[H + 1]? = some (.cells #[vI op, vI r, vI s, vI t, vI n, .slice aa an ac, .slice ra rn rc] 57) ∧ wx.heap[H + 2]? = some (.cells #[vI 1, vI a1, vI a2, vI a3] 99)) := fun wx hx =>
    ⟨(hx.block _ (heap_lt0 b0) (fun e => e)).trans b0, (hx.block _ (heap_lt0 b1) (fun e => e)).trans b1, (hx.block _ (heap_lt0 b2) (fun e => e)).trans b2⟩
  have HT : Hd (∀ wx, Fr (fun _ => False) wa wx → (wx.cell? ⟨H, 0, none⟩ = some (vI P) ∧ wx.cell? ⟨H, 1, none⟩ = some (vI R) ∧ wx.cell? ⟨H, 2, none⟩ = some (vI V) ∧ wx.cell? ⟨H, 3, none⟩ = some (.slice ca cn cc) ∧ wx.cell? ⟨H, 4, none⟩ = some (.slice sa sn sc)) ∧
      (wx.cell? ⟨H + 1, 0, none⟩ = some (vI op) ∧ wx.cell? ⟨H + 1, 1, none⟩ = some (vI r) ∧ wx.cell? ⟨H + 1, 2, none⟩ = some (vI s) ∧ wx.cell? ⟨H + 1, 3, none⟩ = some (vI t) ∧ wx.cell? ⟨H + 1, 4, none⟩ = some (vI n) ∧ wx.cell? ⟨H + 1, 5, none⟩ = some (.slice aa an ac) ∧ wx.cell? ⟨H + 1, 6, none⟩ = some (.slice ra rn rc)) ∧
      (wx.cell? ⟨H + 2, 0, none⟩ = some (vI 1) ∧ wx.cell? ⟨H + 2, 1, none⟩ = some (vI a1) ∧ wx.cell? ⟨H + 2, 2, none⟩ = some (vI a2) ∧ wx.cell? ⟨H + 2, 3, none⟩ = some (vI a3))) := fun wx hx => by
    obtain ⟨q0, q1, q2⟩ := HS.out wx hx
    refine ⟨⟨?_, ?_, ?_, ?_, ?_⟩, ⟨?_, ?_, ?_, ?_, ?_, ?_, ?_⟩, ⟨?_, ?_, ?_, ?_⟩⟩ <;> first | (rw [cell_of0 q0]; rfl) | (rw [cell_of0 q1]; rfl) | (rw [cell_of0 q2]; rfl)
  clear hwa hF b0 b1 b2 hH HS
  go_enter Tryd.func46, Tryd.ntmps46
  go_upto_region 2 with fail
  rw [← HWA.out, ← HH.out]
  clear HWA HH t0 t1 t2 t3 hWp
  obtain ⟨⟨p0, p1, p2, p3, p4⟩, ⟨i0, i1, i2, i3, i4, i5, i6⟩, ⟨r0, r1, r2, r3⟩⟩ := HT.out wa (Fr.refl _ wa)
  go_upto_region 4 with fail
  go_cut [6] (fun x2 wx => ∃ Ba, x2 = .func (.func 82) #[] #[.pointer (some ⟨Ba, 0, none⟩)] ∧ Hd (Fr (fun _ => False) wa wx) ∧ Hd (wx.heap[Ba]? = some (.cells #[vI (endX R V a1 r s cell), vI (endX R V a2 r s cell), vI a3] 47)))
  case first =>
    go_region_held3 (fun w' => w'.cell? ⟨H, 0, none⟩ = some (vI P) ∧ w'.cell? ⟨H, 1, none⟩ = some (vI R) ∧ w'.cell? ⟨H, 2, none⟩ = some (vI V) ∧ w'.cell? ⟨H, 3, none⟩ = some (.slice ca cn cc) ∧ w'.cell? ⟨H, 4, none⟩ = some (.slice sa sn sc) ∧ w'.cell? ⟨H + 1, 0, none⟩ = some (vI op) ∧ w'.cell? ⟨H + 1, 1, none⟩ = some (vI r) ∧ w'.cell? ⟨H + 1, 2, none⟩ = some (vI s) ∧ w'.cell? ⟨H + 1, 3, none⟩ = some (vI t) ∧ w'.cell? ⟨H + 1, 4, none⟩ = some (vI n) ∧ w'.cell? ⟨H + 1, 5, none⟩ = some (.slice aa an ac) ∧ w'.cell? ⟨H + 1, 6, none⟩ = some (.slice ra rn rc) ∧ w'.cell? ⟨H + 2, 1, none⟩ = some (vI a1) ∧ w'.cell? ⟨H + 2, 2, none⟩ = some (vI a2) ∧ w'.cell? ⟨H + 2, 3, none⟩ = some (vI a3)) (go_keep) ((
      first
        | (go_at_call 65
           refine (end_any P R V ca cn cc sa sn sc ⟨op, r, s, t, n, aa, an, ac, ra, rn, rc⟩ _ cell _).mono ?_
           rintro e w3 ⟨rfl, hFx⟩
           have HF3 : Hd (Fr (fun _ => False) wa w3) := Fr.trans (by first | exact HF3.out | exact Fr.drew (Fr.refl _ wa)) hFx
           obtain ⟨⟨p0, p1, p2, p3, p4⟩, ⟨i0, i1, i2, i3, i4, i5, i6⟩, ⟨r0, r1, r2, r3⟩⟩ := HT.out w3 HF3.out
           clear hFx)
        | (go_at_call 64
           refine (only_any (endX R V a1 r s cell, endX R V a2 r s cell, a3) _).mono ?_
           rintro e wo ⟨rfl, hwo⟩
           have HFo : Hd (Fr (fun _ => False) wa wo) := by unfold Hd; rw [hwo]; exact HF3.out.alloc _
           have HBo : Hd (wo.heap[w3.heap.size]? = some (.cells #[vI (endX R V a1 r s cell), vI (endX R V a2 r s cell), vI a3] 47)) := by unfold Hd; rw [hwo]; exact heap_new0 w3 _
           obtain ⟨⟨p0, p1, p2, p3, p4⟩, ⟨i0, i1, i2, i3, i4, i5, i6⟩, ⟨r0, r1, r2, r3⟩⟩ := HT.out wo HFo.out
           clear hwo)))
    all_goals
      go_wp2_with fail
      go_meet
      exact ⟨_, rfl, HFo.out, HBo.out⟩
  case rest =>
    obtain ⟨Ba, rfl, HFx, HBx⟩ := hcut
    go_wp2_with fail
    go_ret
    refine ⟨82, _, rfl, enters_of Tryd.func82 (by kernel_rfl) rfl, HF.out.trans HFx.out, fun n => ?_⟩
    exact only_gives n n0 Ba (endX R V a1 r s cell, endX R V a2 r s cell, a3) _ HBx.out

end Go.Proofs.YtlmlmhinbkcpoaaDoor
