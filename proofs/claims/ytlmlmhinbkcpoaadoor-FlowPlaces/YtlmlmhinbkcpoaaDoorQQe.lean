import Derived.Test.YtlmlmhinbkcpoaaDoorQQd
namespace Go.Proofs.YtlmlmhinbkcpoaaDoor
open Go.RowKit (wrap32 wrap64)
set_option linter.unusedVariables false
set_option linter.unusedSimpArgs false

set_option maxRecDepth 100000 in
set_option maxHeartbeats 8000000 in
theorem places_any (f : PF) (cv : Value) (v at' : Int) (w : World) (h : CA w cv f.code) (hn : FineC f.code) (hT : Tab w) (hR : RowsT w) :
    Calls Tryd.prog 6 #[.agg #[vI f.P, vI f.R, vI f.V, cv], vI v, vI at'] w fun e w' => e = .returned (.bool true) ∧ Fr (fun _ => False) w w' := by
  obtain ⟨a, c, rfl, -⟩ := id h
  have hnl : f.code.length ≤ 1599289640354 := hn.1
  obtain ⟨wa, hwa⟩ : ∃ wa, wa = w.alloc (.cells #[vI f.P, vI f.R, vI f.V, .slice a f.code.length c] 30) := ⟨_, rfl⟩
  have hb : wa.heap[w.heap.size]? = some (.cells #[vI f.P, vI f.R, vI f.V, .slice a f.code.length c] 30) := by rw [hwa]; exact heap_new0 w _
  have HWA : Hd (wa = w.alloc (.cells #[vI f.P, vI f.R, vI f.V, .slice a f.code.length c] 30)) := hwa
  obtain ⟨H, hH⟩ : ∃ H, H = w.heap.size := ⟨_, rfl⟩
  have HH : Hd (H = w.heap.size) := hH
  rw [← hH] at hb
  have hFa : Fr (fun _ => False) w wa := by rw [hwa]; exact Fr.alloc (Fr.refl _ w) _
  have HF0 : Hd (Fr (fun _ => False) w wa) := hFa
  have HB0 : Hd (wa.heap[H]? = some (.cells #[vI f.P, vI f.R, vI f.V, .slice a f.code.length c] 30)) := hb
  have HC : Hd (CA w (.slice a f.code.length c) f.code) := h
  have HFI : Hd (FineC f.code) := hn
  have HT : Hd (Tab wa) := hT.stay hFa
  have HR : Hd (RowsT wa) := hR.stay hFa (by have := hT.lt; omega)
  clear hwa hH hb hFa h hn hT hR
  go_enter Tryd.func6, Tryd.ntmps6
  go_upto_region 1 with fail
  rw [← HWA.out, ← HH.out]
  clear HWA
  go_wp2_with fail
  refine (show Calls Tryd.prog 8 #[] wa _ from works_any wa HT.out HR.out).mono ?_
  rintro e w1 ⟨rfl, hF1⟩
  have HF1 : Hd (Fr (fun _ => False) w w1) := HF0.out.trans hF1
  have HB1 : Hd (w1.heap[H]? = some (.cells #[vI f.P, vI f.R, vI f.V, .slice a f.code.length c] 30)) := (hF1.block _ (heap_lt0 HB0.out) (fun e => e)).trans HB0.out
  have h0 : w1.cell? ⟨H, 0, none⟩ = some (vI f.P) := by rw [cell_of0 HB1.out]; rfl
  have h1 : w1.cell? ⟨H, 1, none⟩ = some (vI f.R) := by rw [cell_of0 HB1.out]; rfl
  have h2 : w1.cell? ⟨H, 2, none⟩ = some (vI f.V) := by rw [cell_of0 HB1.out]; rfl
  have h3 : w1.cell? ⟨H, 3, none⟩ = some (.slice a f.code.length c) := by rw [cell_of0 HB1.out]; rfl
  clear hF1 HF0 HB0 HT HR
  go_wp2_with fail
  refine (show Calls Tryd.prog 19 #[.agg #[vI f.P, vI f.R, vI f.V, .slice a f.code.length c]] w1 _ from wideFunc_any f.P f.R f.V _ f.code w1 (HC.out.stay HF1.out) HFI.out).mono ?_
  rintro e w2 ⟨v', rfl, hwc, hF2⟩
  obtain ⟨g, ps, ev, -⟩ := id hwc
  subst ev
  obtain ⟨wb, hwb⟩ : ∃ wb, wb = w2.alloc (.cells #[vI f.P, vI f.R, vI f.V, .slice (some ⟨g, 0, none⟩) f.code.length (f.code.length + 64)] 30) := ⟨_, rfl⟩
  have HWB : Hd (wb = w2.alloc (.cells #[vI f.P, vI f.R, vI f.V, .slice (some ⟨g, 0, none⟩) f.code.length (f.code.length + 64)] 30)) := hwb
  have hFb : Fr (fun _ => False) w2 wb := by rw [hwb]; exact Fr.alloc (Fr.refl _ w2) _
  have hxb : wb.heap[w2.heap.size]? = some (.cells #[vI f.P, vI f.R, vI f.V, .slice (some ⟨g, 0, none⟩) f.code.length (f.code.length + 64)] 30) := by rw [hwb]; exact heap_new0 w2 _
  obtain ⟨XB, hXB⟩ : ∃ XB, XB = w2.heap.size := ⟨_, rfl⟩
  have HXB : Hd (XB = w2.heap.size) := hXB
  rw [← hXB] at hxb
  obtain ⟨B, hB⟩ : ∃ B, B = w1.heap.size := ⟨_, rfl⟩
  have HBw : Hd (w.heap.size ≤ B) := by unfold Hd; rw [hB]; exact HF1.out.size
  have HX3 : Hd (FX wb B XB g f.P f.R f.V f.code.length f.code) := ⟨hxb, by rw [hB]; exact hwc.stay hFb, rfl, HFI.out⟩
  have HF3 : Hd (Fr (fun _ => False) w wb) := (HF1.out.trans hF2).trans hFb
  have HB3 : Hd (wb.heap[H]? = some (.cells #[vI f.P, vI f.R, vI f.V, .slice a f.code.length c] 30)) := ((hF2.trans hFb).block _ (heap_lt0 HB1.out) (fun e => e)).trans HB1.out
  have HXg : Hd (w.heap.size ≤ XB) := by unfold Hd; rw [hXB]; exact (HF1.out.trans hF2).size
  have HGg : Hd (w.heap.size ≤ g) := by have := (wc_ge hwc).1; have := HF1.out.size; unfold Hd; omega
  clear hwb hFb hxb hXB hB hwc hF2 HF1 HB1 h0 h1 h2 h3
  go_upto_region 3 with fail
  rw [← HWB.out, ← HXB.out]
  clear HWB HXB
  generalize wb = w3 at *
  obtain ⟨x0, x1, x2, x3⟩ := HX3.out.cells
  go_wp2_with fail
  refine (show Calls Tryd.prog 14 #[.agg #[vI f.P, vI f.R, vI f.V, .slice (some ⟨g, 0, none⟩) f.code.length (f.code.length + 64)]] w3 _ from locations_any f _ w3 HX3.out.ca hnl).mono ?_
  rintro e w4 ⟨rfl, hF4⟩
  have HX4 : Hd (FX w4 B XB g f.P f.R f.V f.code.length f.code) := HX3.out.stay hF4
  have HF4 : Hd (Fr (fun _ => False) w w4) := HF3.out.trans hF4
  have HB4 : Hd (w4.heap[H]? = some (.cells #[vI f.P, vI f.R, vI f.V, .slice a f.code.length c] 30)) := (hF4.block _ (heap_lt0 HB3.out) (fun e => e)).trans HB3.out
  clear hF4 HX3 HF3 HB3 x0 x1 x2 x3
  obtain ⟨x0, x1, x2, x3⟩ := HX4.out.cells
  go_wp2_with fail
  refine (show Calls Tryd.prog 20 #[.agg #[vI f.P, vI f.R, vI f.V, .slice (some ⟨g, 0, none⟩) f.code.length (f.code.length + 64)], vI v] w4 _ from variable_any f.P f.R f.V v _ _ _ w4).mono ?_
  rintro e w5 ⟨rfl, hF5⟩
  have HX5 : Hd (FX w5 B XB g f.P f.R f.V f.code.length f.code) := HX4.out.stay hF5
  have HF5 : Hd (Fr (fun _ => False) w w5) := HF4.out.trans hF5
  have HB5 : Hd (w5.heap[H]? = some (.cells #[vI f.P, vI f.R, vI f.V, .slice a f.code.length c] 30)) := (hF5.block _ (heap_lt0 HB4.out) (fun e => e)).trans HB4.out
  clear hF5 HX4 HF4 HB4 x0 x1 x2 x3
  obtain ⟨x0, x1, x2, x3⟩ := HX5.out.cells
  go_wp2_with fail
  refine (show Calls Tryd.prog 21 #[.agg #[vI f.P, vI f.R, vI f.V, .slice (some ⟨g, 0, none⟩) f.code.length (f.code.length + 64)], vI at'] w5 _ from cell_any f _ _ at' w5 HX5.out.ca (by omega) hnl).mono ?_
  rintro e w6 ⟨rfl, hF6⟩
  have HX6 : Hd (FX w6 B XB g f.P f.R f.V f.code.length f.code) := HX5.out.stay hF6
  have HF6 : Hd (Fr (fun _ => False) w w6) := HF5.out.trans hF6
  have HB6 : Hd (w6.heap[H]? = some (.cells #[vI f.P, vI f.R, vI f.V, .slice a f.code.length c] 30)) := (hF6.block _ (heap_lt0 HB5.out) (fun e => e)).trans HB5.out
  clear hF6 HX5 HF5 HB5 x0 x1 x2 x3
  obtain ⟨x0, x1, x2, x3⟩ := HX6.out.cells
  have h0 : w6.cell? ⟨H, 0, none⟩ = some (vI f.P) := by rw [cell_of0 HB6.out]; rfl
  have h1 : w6.cell? ⟨H, 1, none⟩ = some (vI f.R) := by rw [cell_of0 HB6.out]; rfl
  have h2 : w6.cell? ⟨H, 2, none⟩ = some (vI f.V) := by rw [cell_of0 HB6.out]; rfl
  have h3 : w6.cell? ⟨H, 3, none⟩ = some (.slice a f.code.length c) := by rw [cell_of0 HB6.out]; rfl
  go_wp2_with fail
  refine (show Calls Tryd.prog 22 #[.agg #[vI f.P, vI f.R, vI f.V, .slice (some ⟨g, 0, none⟩) f.code.length (f.code.length + 64)], .agg #[vI f.P, vI f.R, vI f.V, .slice a f.code.length c]] w6 _ from eqFunc_same f _ _ w6 HX6.out.ca (HC.out.stay HF6.out) HFI.out).mono ?_
  rintro e w7 ⟨rfl, hF7⟩
  have HX7 : Hd (FX w7 B XB g f.P f.R f.V f.code.length f.code) := HX6.out.stay hF7
  have HF7 : Hd (Fr (fun _ => False) w w7) := HF6.out.trans hF7
  have HB7 : Hd (w7.heap[H]? = some (.cells #[vI f.P, vI f.R, vI f.V, .slice a f.code.length c] 30)) := (hF7.block _ (heap_lt0 HB6.out) (fun e => e)).trans HB6.out
  clear hF7 HX6 HF6 HB6 x0 x1 x2 x3 h0 h1 h2 h3
  obtain ⟨x0, x1, x2, x3⟩ := HX7.out.cells
  go_wp2_with fail
  refine (show Calls Tryd.prog 23 #[.slice (some ⟨g, 0, none⟩) f.code.length (f.code.length + 64)] w7 _ from spareCode_any _ f.code B w7 HX7.out.wc HFI.out).mono ?_
  rintro e w8 ⟨rfl, hw8⟩
  have HX8 : Hd (FX w8 B XB g f.P f.R f.V f.code.length f.code) := by rw [hw8]; exact HX7.out
  have HF8 : Hd (Fr (fun _ => False) w w8) := by rw [hw8]; exact HF7.out
  have HB8 : Hd (w8.heap[H]? = some (.cells #[vI f.P, vI f.R, vI f.V, .slice a f.code.length c] 30)) := by rw [hw8]; exact HB7.out
  clear hw8 HX7 HF7 HB7 x0 x1 x2 x3
  have h0 : w8.cell? ⟨H, 0, none⟩ = some (vI f.P) := by rw [cell_of0 HB8.out]; rfl
  have h1 : w8.cell? ⟨H, 1, none⟩ = some (vI f.R) := by rw [cell_of0 HB8.out]; rfl
  have h2 : w8.cell? ⟨H, 2, none⟩ = some (vI f.V) := by rw [cell_of0 HB8.out]; rfl
  have h3 : w8.cell? ⟨H, 3, none⟩ = some (.slice a f.code.length c) := by rw [cell_of0 HB8.out]; rfl
  go_wp2_with fail
  refine (show Calls Tryd.prog 15 #[.agg #[vI f.P, vI f.R, vI f.V, .slice a f.code.length c]] w8 _ from rlocations_any f _ w8 (HC.out.stay HF8.out) hnl).mono ?_
  rintro e w9 ⟨rfl, hF9⟩
  have HX9 : Hd (FX w9 B XB g f.P f.R f.V f.code.length f.code) := HX8.out.stay hF9
  have HF9 : Hd (Fr (fun _ => False) w w9) := HF8.out.trans hF9
  have HB9 : Hd (w9.heap[H]? = some (.cells #[vI f.P, vI f.R, vI f.V, .slice a f.code.length c] 30)) := (hF9.block _ (heap_lt0 HB8.out) (fun e => e)).trans HB8.out
  clear hF9 HX8 HF8 HB8 h0 h1 h2 h3
  have h0 : w9.cell? ⟨H, 0, none⟩ = some (vI f.P) := by rw [cell_of0 HB9.out]; rfl
  have h1 : w9.cell? ⟨H, 1, none⟩ = some (vI f.R) := by rw [cell_of0 HB9.out]; rfl
  have h2 : w9.cell? ⟨H, 2, none⟩ = some (vI f.V) := by rw [cell_of0 HB9.out]; rfl
  have h3 : w9.cell? ⟨H, 3, none⟩ = some (.slice a f.code.length c) := by rw [cell_of0 HB9.out]; rfl
  have q1 : (flocX f.R f.V f.code != flocX f.R f.V f.code) = false := by simp
  have q2 : (varX f.R f.V v != varX f.R f.V v) = false := by simp
  have q3 : (fcelX f.R f.V at' f.code != fcelX f.R f.V at' f.code) = false := by simp
  go_wp2_with fail
  refine (show Calls Tryd.prog 24 #[.agg #[vI f.P, vI f.R, vI f.V, .slice a f.code.length c], vI v] w9 _ from rvariable_any f _ v w9 (HC.out.stay HF9.out)).mono ?_
  rintro e w10 ⟨rfl, hF10⟩
  have HX10 : Hd (FX w10 B XB g f.P f.R f.V f.code.length f.code) := HX9.out.stay hF10
  have HF10 : Hd (Fr (fun _ => False) w w10) := HF9.out.trans hF10
  have HB10 : Hd (w10.heap[H]? = some (.cells #[vI f.P, vI f.R, vI f.V, .slice a f.code.length c] 30)) := (hF10.block _ (heap_lt0 HB9.out) (fun e => e)).trans HB9.out
  clear hF10 HX9 HF9 HB9 h0 h1 h2 h3
  have h0 : w10.cell? ⟨H, 0, none⟩ = some (vI f.P) := by rw [cell_of0 HB10.out]; rfl
  have h1 : w10.cell? ⟨H, 1, none⟩ = some (vI f.R) := by rw [cell_of0 HB10.out]; rfl
  have h2 : w10.cell? ⟨H, 2, none⟩ = some (vI f.V) := by rw [cell_of0 HB10.out]; rfl
  have h3 : w10.cell? ⟨H, 3, none⟩ = some (.slice a f.code.length c) := by rw [cell_of0 HB10.out]; rfl
  go_wp2_with fail
  refine (show Calls Tryd.prog 25 #[.agg #[vI f.P, vI f.R, vI f.V, .slice a f.code.length c], vI at'] w10 _ from rcell_any f _ at' w10 (HC.out.stay HF10.out) hnl).mono ?_
  rintro e w11 ⟨rfl, hF11⟩
  have HX11 : Hd (FX w11 B XB g f.P f.R f.V f.code.length f.code) := HX10.out.stay hF11
  have HF11 : Hd (Fr (fun _ => False) w w11) := HF10.out.trans hF11
  have HB11 : Hd (w11.heap[H]? = some (.cells #[vI f.P, vI f.R, vI f.V, .slice a f.code.length c] 30)) := (hF11.block _ (heap_lt0 HB10.out) (fun e => e)).trans HB10.out
  clear hF11 HX10 HF10 HB10 h0 h1 h2 h3
  go_wp2_with fail
  clear q1 q2 q3
  go_loopw [13] (fun v wr => ∃ (k : Nat) (cs : List PI), v = .int .i64 k ∧ k ≤ f.code.length + 1 ∧ Hd (FX wr B XB g f.P f.R f.V f.code.length cs) ∧ Hd (Fr (fun _ => False) w wr)) (fun v _ => match v with | .int _ q => f.code.length + 1 - q.toNat | _ => 0)
  case atStart => exact ⟨0, f.code, rfl, by omega, HX11.out, HF11.out⟩
  case round =>
    clear HX11 HF11 HB11
    obtain ⟨k, cs, rfl, hk, HX, HF⟩ := hrel
    obtain ⟨x0, x1, x2, x3⟩ := HX.out.cells
    by_cases hlt : k < f.code.length
    · have hk0 : (0 : Int) ≤ k := by omega
      have hk1 : (k : Int) < f.code.length := by omega
      have HK : Hd (k < cs.length) := by unfold Hd; rw [HX.out.len]; exact hlt
      obtain ⟨op, hop⟩ : ∃ op, op = (cs[k]'HK.out).op := ⟨_, rfl⟩
      obtain ⟨c0, z0⟩ := HX.out.wc.opCell HK.out
      rw [← hop] at c0
      clear hop
      by_cases h6 : op = 6
      · have d6 : (op == 6) = true := by simp [h6]
        have d7 : decide (op = 6) = true := by simp [h6]
        obtain ⟨cs', hx'⟩ := HX.out.op HK.out 9
        have HX' : Hd (FX (wr.setCell ⟨g, k * 7, none⟩ (vI 9)) B XB g f.P f.R f.V f.code.length cs') := hx'
        have HF' : Hd (Fr (fun _ => False) w (wr.setCell ⟨g, k * 7, none⟩ (vI 9))) := HF.out.setCell _ _ (Or.inr HGg.out)
        clear hx' h6 HX HF
        go_upto_region 11 with fail
        clear x0 x1 x2 x3 c0 z0 d6 d7
        generalize wr.setCell ⟨g, k * 7, none⟩ (vI 9) = wz at *
        go_wp2_with fail
        exact ⟨⟨k + 2, cs', by simp, by omega, HX'.out, HF'.out⟩, by simp; omega⟩
      · have d6 : (op == 6) = false := by simp [h6]
        have d7 : decide (op = 6) = false := by simp [h6]
        obtain ⟨cs', hx'⟩ := HX.out.op HK.out 6
        have HX' : Hd (FX (wr.setCell ⟨g, k * 7, none⟩ (vI 6)) B XB g f.P f.R f.V f.code.length cs') := hx'
        have HF' : Hd (Fr (fun _ => False) w (wr.setCell ⟨g, k * 7, none⟩ (vI 6))) := HF.out.setCell _ _ (Or.inr HGg.out)
        clear hx' h6 HX HF
        go_upto_region 11 with fail
        clear x0 x1 x2 x3 c0 z0 d6 d7
        generalize wr.setCell ⟨g, k * 7, none⟩ (vI 6) = wz at *
        go_wp2_with fail
        exact ⟨⟨k + 2, cs', by simp, by omega, HX'.out, HF'.out⟩, by simp; omega⟩
    · have hdk : decide ((k : Int) < f.code.length) = false := by simp; omega
      clear HC HFI
      generalize f.code.length = n at *
      have hl : cs.length = n := HX.out.len
      subst hl
      go_wp2_with fail
      refine (show Calls Tryd.prog 26 #[.agg #[vI f.P, vI f.R, vI f.V, .slice (some ⟨g, 0, none⟩) cs.length (cs.length + 64)]] wr _ from copyFunc_any ⟨f.P, f.R, f.V, cs⟩ _ wr HX.out.ca HX.out.fine).mono ?_
      rintro e w12 ⟨y, L, rfl, hco, hL, hF12⟩
      have hy : CA w12 y cs := by have := hco.ca; rw [hL] at this; exact this
      clear hco hL
      obtain ⟨ay, ry, ey, -⟩ := id hy
      subst ey
      obtain ⟨wb, hwb⟩ : ∃ wb, wb = w12.alloc (.cells #[vI f.P, vI f.R, vI f.V, .slice ay cs.length ry] 30) := ⟨_, rfl⟩
      have HWB : Hd (wb = w12.alloc (.cells #[vI f.P, vI f.R, vI f.V, .slice ay cs.length ry] 30)) := hwb
      have hFb : Fr (fun _ => False) w12 wb := by rw [hwb]; exact Fr.alloc (Fr.refl _ w12) _
      have hyb : wb.heap[w12.heap.size]? = some (.cells #[vI f.P, vI f.R, vI f.V, .slice ay cs.length ry] 30) := by rw [hwb]; exact heap_new0 w12 _
      obtain ⟨YB, hYB⟩ : ∃ YB, YB = w12.heap.size := ⟨_, rfl⟩
      have HYB : Hd (YB = w12.heap.size) := hYB
      rw [← hYB] at hyb
      have HX13 : Hd (FX wb B XB g f.P f.R f.V cs.length cs) := (HX.out.stay hF12).stay hFb
      have HF13 : Hd (Fr (fun _ => False) w wb) := (HF.out.trans hF12).trans hFb
      have HY13 : Hd (wb.heap[YB]? = some (.cells #[vI f.P, vI f.R, vI f.V, .slice ay cs.length ry] 30)) := hyb
      have HC13 : Hd (CA wb (.slice ay cs.length ry) cs) := hy.stay hFb
      clear hwb hFb hyb hYB hy hF12 HX HF x0 x1 x2 x3 hdk
      go_upto_region 16 with fail
      rw [← HWB.out, ← HYB.out]
      clear HWB HYB
      generalize wb = w13 at *
      obtain ⟨x0, x1, x2, x3⟩ := HX13.out.cells
      go_wp2_with fail
      refine (show Calls Tryd.prog 14 #[.agg #[vI f.P, vI f.R, vI f.V, .slice (some ⟨g, 0, none⟩) cs.length (cs.length + 64)]] w13 (fun e w' => e = .returned (vI (flocX f.R f.V cs)) ∧ Fr (fun _ => False) w13 w') from locations_any ⟨f.P, f.R, f.V, cs⟩ _ w13 HX13.out.ca hnl).mono ?_
      rintro e w14 ⟨rfl, hF14⟩
      have HX14 : Hd (FX w14 B XB g f.P f.R f.V cs.length cs) := HX13.out.stay hF14
      have HF14 : Hd (Fr (fun _ => False) w w14) := HF13.out.trans hF14
      have HY14 : Hd (w14.heap[YB]? = some (.cells #[vI f.P, vI f.R, vI f.V, .slice ay cs.length ry] 30)) := (hF14.block _ (heap_lt0 HY13.out) (fun e => e)).trans HY13.out
      have HC14 : Hd (CA w14 (.slice ay cs.length ry) cs) := HC13.out.stay hF14
      clear hF14 HX13 HF13 HY13 HC13 x0 x1 x2 x3
      obtain ⟨x0, x1, x2, x3⟩ := HX14.out.cells
      go_wp2_with fail
      refine (show Calls Tryd.prog 21 #[.agg #[vI f.P, vI f.R, vI f.V, .slice (some ⟨g, 0, none⟩) cs.length (cs.length + 64)], vI at'] w14 (fun e w' => e = .returned (vI (fcelX f.R f.V at' cs)) ∧ Fr (fun _ => False) w14 w') from cell_any ⟨f.P, f.R, f.V, cs⟩ _ _ at' w14 HX14.out.ca (Nat.le_add_right _ _) hnl).mono ?_
      rintro e w15 ⟨rfl, hF15⟩
      have HX15 : Hd (FX w15 B XB g f.P f.R f.V cs.length cs) := HX14.out.stay hF15
      have HF15 : Hd (Fr (fun _ => False) w w15) := HF14.out.trans hF15
      have HY15 : Hd (w15.heap[YB]? = some (.cells #[vI f.P, vI f.R, vI f.V, .slice ay cs.length ry] 30)) := (hF15.block _ (heap_lt0 HY14.out) (fun e => e)).trans HY14.out
      have HC15 : Hd (CA w15 (.slice ay cs.length ry) cs) := HC14.out.stay hF15
      clear hF15 HX14 HF14 HY14 HC14 x0 x1 x2 x3
      have h0 : w15.cell? ⟨YB, 0, none⟩ = some (vI f.P) := by rw [cell_of0 HY15.out]; rfl
      have h1 : w15.cell? ⟨YB, 1, none⟩ = some (vI f.R) := by rw [cell_of0 HY15.out]; rfl
      have h2 : w15.cell? ⟨YB, 2, none⟩ = some (vI f.V) := by rw [cell_of0 HY15.out]; rfl
      have h3 : w15.cell? ⟨YB, 3, none⟩ = some (.slice ay cs.length ry) := by rw [cell_of0 HY15.out]; rfl
      have q1 : (flocX f.R f.V cs != flocX f.R f.V cs) = false := by simp
      have q3 : (fcelX f.R f.V at' cs != fcelX f.R f.V at' cs) = false := by simp
      go_wp2_with fail
      refine (show Calls Tryd.prog 15 #[.agg #[vI f.P, vI f.R, vI f.V, .slice ay cs.length ry]] w15 (fun e w' => e = .returned (vI (flocX f.R f.V cs)) ∧ Fr (fun _ => False) w15 w') from rlocations_any ⟨f.P, f.R, f.V, cs⟩ _ w15 HC15.out hnl).mono ?_
      rintro e w16 ⟨rfl, hF16⟩
      have HX16 : Hd (FX w16 B XB g f.P f.R f.V cs.length cs) := HX15.out.stay hF16
      have HF16 : Hd (Fr (fun _ => False) w w16) := HF15.out.trans hF16
      have HY16 : Hd (w16.heap[YB]? = some (.cells #[vI f.P, vI f.R, vI f.V, .slice ay cs.length ry] 30)) := (hF16.block _ (heap_lt0 HY15.out) (fun e => e)).trans HY15.out
      have HC16 : Hd (CA w16 (.slice ay cs.length ry) cs) := HC15.out.stay hF16
      clear hF16 HX15 HF15 HY15 HC15 h0 h1 h2 h3
      have h0 : w16.cell? ⟨YB, 0, none⟩ = some (vI f.P) := by rw [cell_of0 HY16.out]; rfl
      have h1 : w16.cell? ⟨YB, 1, none⟩ = some (vI f.R) := by rw [cell_of0 HY16.out]; rfl
      have h2 : w16.cell? ⟨YB, 2, none⟩ = some (vI f.V) := by rw [cell_of0 HY16.out]; rfl
      have h3 : w16.cell? ⟨YB, 3, none⟩ = some (.slice ay cs.length ry) := by rw [cell_of0 HY16.out]; rfl
      go_wp2_with fail
      refine (show Calls Tryd.prog 25 #[.agg #[vI f.P, vI f.R, vI f.V, .slice ay cs.length ry], vI at'] w16 (fun e w' => e = .returned (vI (fcelX f.R f.V at' cs)) ∧ Fr (fun _ => False) w16 w') from rcell_any ⟨f.P, f.R, f.V, cs⟩ _ at' w16 HC16.out hnl).mono ?_
      rintro e w17 ⟨rfl, hF17⟩
      have HX17 : Hd (FX w17 B XB g f.P f.R f.V cs.length cs) := HX16.out.stay hF17
      have HF17 : Hd (Fr (fun _ => False) w w17) := HF16.out.trans hF17
      have HY17 : Hd (w17.heap[YB]? = some (.cells #[vI f.P, vI f.R, vI f.V, .slice ay cs.length ry] 30)) := (hF17.block _ (heap_lt0 HY16.out) (fun e => e)).trans HY16.out
      have HC17 : Hd (CA w17 (.slice ay cs.length ry) cs) := HC16.out.stay hF17
      clear hF17 HX16 HF16 HY16 HC16 h0 h1 h2 h3
      obtain ⟨x0, x1, x2, x3⟩ := HX17.out.cells
      have z1 := frozen_of HX17.out.x 1
      have HX18 : Hd (FX (w17.setCell ⟨XB, 1, none⟩ (vI 3)) B XB g f.P 3 f.V cs.length cs) := HX17.out.head 1 3 f.P 3 f.V rfl
      have HF18 : Hd (Fr (fun _ => False) w (w17.setCell ⟨XB, 1, none⟩ (vI 3))) := HF17.out.setCell _ _ (Or.inr HXg.out)
      clear HX17 HF17 HY17 HC17
      go_upto_region 21 with fail
      clear x0 x1 x2 x3 z1 q1 q3
      generalize w17.setCell ⟨XB, 1, none⟩ (vI 3) = w18 at *
      obtain ⟨x0, x1, x2, x3⟩ := HX18.out.cells
      have z1 := frozen_of HX18.out.x 2
      have HX19 : Hd (FX (w18.setCell ⟨XB, 2, none⟩ (vI 5)) B XB g f.P 3 5 cs.length cs) := HX18.out.head 2 5 f.P 3 5 rfl
      have HF19 : Hd (Fr (fun _ => False) w (w18.setCell ⟨XB, 2, none⟩ (vI 5))) := HF18.out.setCell _ _ (Or.inr HXg.out)
      clear HX18 HF18
      go_upto_region 22 with fail
      clear x0 x1 x2 x3 z1
      generalize w18.setCell ⟨XB, 2, none⟩ (vI 5) = w19 at *
      obtain ⟨x0, x1, x2, x3⟩ := HX19.out.cells
      go_wp2_with fail
      refine (show Calls Tryd.prog 20 #[.agg #[vI f.P, vI 3, vI 5, .slice (some ⟨g, 0, none⟩) cs.length (cs.length + 64)], vI 4] w19 _ from variable_any f.P 3 5 4 _ _ _ w19).mono ?_
      rintro e w20 ⟨he, hF20⟩
      rw [var_8] at he
      subst he
      have HX20 : Hd (FX w20 B XB g f.P 3 5 cs.length cs) := HX19.out.stay hF20
      have HF20 : Hd (Fr (fun _ => False) w w20) := HF19.out.trans hF20
      clear hF20 HX19 HF19 x0 x1 x2 x3
      go_wp2_with fail
      go_loopw [16] (fun v wr => ∃ (k : Nat) (cx : List PI), v = .int .i64 k ∧ k ≤ cs.length ∧ Hd (FX wr B XB g f.P 3 5 cs.length cx) ∧ Hd (Fr (fun _ => False) w wr)) (fun v _ => match v with | .int _ q => cs.length - q.toNat | _ => 0)
      case atStart => exact ⟨0, cs, rfl, Nat.zero_le _, HX20.out, HF20.out⟩
      case round =>
        clear HX20 HF20
        obtain ⟨j, cx, rfl, hj, HX, HF⟩ := hrel
        obtain ⟨x0, x1, x2, x3⟩ := HX.out.cells
        by_cases hltj : j < cs.length
        · have hj0 : (0 : Int) ≤ j := by omega
          have hj1 : (j : Int) < cs.length := by omega
          have HK : Hd (j < cx.length) := by unfold Hd; rw [HX.out.len]; exact hltj
          obtain ⟨c0, z0⟩ := HX.out.wc.opCell HK.out
          generalize (cx[j]'HK.out).op = op at c0
          obtain ⟨cs', hx'⟩ := HX.out.op HK.out 16
          have HX' : Hd (FX (wr.setCell ⟨g, j * 7, none⟩ (vI 16)) B XB g f.P 3 5 cs.length cs') := hx'
          have HF' : Hd (Fr (fun _ => False) w (wr.setCell ⟨g, j * 7, none⟩ (vI 16))) := HF.out.setCell _ _ (Or.inr HGg.out)
          clear hx' HX HF
          go_upto_region 25 with fail
          clear x0 x1 x2 x3 c0 z0
          generalize wr.setCell ⟨g, j * 7, none⟩ (vI 16) = wz at *
          go_wp2_with fail
          exact ⟨⟨j + 1, cs', by simp, by omega, HX'.out, HF'.out⟩, by simp; omega⟩
        · have hdj : decide ((j : Int) < cs.length) = false := by simp; omega
          have z1 := frozen_of HX.out.x 1
          have HX21 : Hd (FX (wr.setCell ⟨XB, 1, none⟩ (vI 1)) B XB g f.P 1 5 cs.length cx) := HX.out.head 1 1 f.P 1 5 rfl
          have HF21 : Hd (Fr (fun _ => False) w (wr.setCell ⟨XB, 1, none⟩ (vI 1))) := HF.out.setCell _ _ (Or.inr HXg.out)
          clear HX HF
          go_upto_region 28 with fail
          clear x0 x1 x2 x3 z1 hdj
          generalize wr.setCell ⟨XB, 1, none⟩ (vI 1) = w21 at *
          obtain ⟨x0, x1, x2, x3⟩ := HX21.out.cells
          go_wp2_with fail
          refine (show Calls Tryd.prog 20 #[.agg #[vI f.P, vI 1, vI 5, .slice (some ⟨g, 0, none⟩) cs.length (cs.length + 64)], vI 4] w21 _ from variable_any f.P 1 5 4 _ _ _ w21).mono ?_
          rintro e w22 ⟨he, hF22⟩
          rw [var_6] at he
          subst he
          have HX22 : Hd (FX w22 B XB g f.P 1 5 cs.length cx) := HX21.out.stay hF22
          have HF22 : Hd (Fr (fun _ => False) w w22) := HF21.out.trans hF22
          clear hF22 HX21 HF21 x0 x1 x2 x3
          obtain ⟨x0, x1, x2, x3⟩ := HX22.out.cells
          go_wp2_with fail
          refine (show Calls Tryd.prog 20 #[.agg #[vI f.P, vI 1, vI 5, .slice (some ⟨g, 0, none⟩) cs.length (cs.length + 64)], vI 4] w22 _ from variable_any f.P 1 5 4 _ _ _ w22).mono ?_
          rintro e w23 ⟨he, hF23⟩
          rw [var_6] at he
          subst he
          have HX23 : Hd (FX w23 B XB g f.P 1 5 cs.length cx) := HX22.out.stay hF23
          have HF23 : Hd (Fr (fun _ => False) w w23) := HF22.out.trans hF23
          clear hF23 HX22 HF22 x0 x1 x2 x3
          obtain ⟨x0, x1, x2, x3⟩ := HX23.out.cells
          have z1 := frozen_of HX23.out.x 2
          have HX24 : Hd (FX (w23.setCell ⟨XB, 2, none⟩ (vI 4)) B XB g f.P 1 4 cs.length cx) := HX23.out.head 2 4 f.P 1 4 rfl
          have HF24 : Hd (Fr (fun _ => False) w (w23.setCell ⟨XB, 2, none⟩ (vI 4))) := HF23.out.setCell _ _ (Or.inr HXg.out)
          clear HX23 HF23
          go_upto_region 31 with fail
          clear x0 x1 x2 x3 z1
          generalize w23.setCell ⟨XB, 2, none⟩ (vI 4) = w24 at *
          obtain ⟨x0, x1, x2, x3⟩ := HX24.out.cells
          go_wp2_with fail
          refine (show Calls Tryd.prog 20 #[.agg #[vI f.P, vI 1, vI 4, .slice (some ⟨g, 0, none⟩) cs.length (cs.length + 64)], vI 4] w24 _ from variable_any f.P 1 4 4 _ _ _ w24).mono ?_
          rintro e w25 ⟨he, hF25⟩
          rw [var_4] at he
          subst he
          have HF25 : Hd (Fr (fun _ => False) w w25) := HF24.out.trans hF25
          clear hF25 HX24 HF24 x0 x1 x2 x3
          go_wp2_with fail
          go_ret
          exact ⟨rfl, HF25.out⟩

end Go.Proofs.YtlmlmhinbkcpoaaDoor
