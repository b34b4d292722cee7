import Derived.Test.YtlmlmhinbkcpoaaDoorQQb
namespace Go.Proofs.YtlmlmhinbkcpoaaDoor
open Go.RowKit (wrap32 wrap64)
set_option linter.unusedVariables false
set_option linter.unusedSimpArgs false

set_option maxRecDepth 100000 in
set_option maxHeartbeats 4000000 in
theorem cell_any (f : PF) (a : Option Addr) (c : Nat) (at' : Int) (w : World) (h : CA w (.slice a f.code.length c) f.code) (hcap : f.code.length ≤ c) (hn : f.code.length ≤ 1599289640354) :
    Calls Tryd.prog 21 #[.agg #[vI f.P, vI f.R, vI f.V, .slice a f.code.length c], vI at'] w fun e w' => e = .returned (vI (fcelX f.R f.V at' f.code)) ∧ Fr (fun _ => False) w w' := by
  obtain ⟨wa, hwa⟩ : ∃ wa, wa = w.alloc (.cells #[vI f.P, vI f.R, vI f.V, .slice a f.code.length c] 30) := ⟨_, rfl⟩
  have hb : wa.heap[w.heap.size]? = some (.cells #[vI f.P, vI f.R, vI f.V, .slice a f.code.length c] 30) := by rw [hwa]; exact heap_new0 w _
  have HWA : Hd (wa = w.alloc (.cells #[vI f.P, vI f.R, vI f.V, .slice a f.code.length c] 30)) := hwa
  obtain ⟨H, hH⟩ : ∃ H, H = w.heap.size := ⟨_, rfl⟩
  have HH : Hd (H = w.heap.size) := hH
  rw [← hH] at hb
  have hFa : Fr (fun _ => False) w wa := by rw [hwa]; exact Fr.alloc (Fr.refl _ w) _
  have c0 : wa.cell? ⟨H, 0, none⟩ = some (vI f.P) := by rw [cell_of0 hb]; rfl
  have c1 : wa.cell? ⟨H, 1, none⟩ = some (vI f.R) := by rw [cell_of0 hb]; rfl
  have c2 : wa.cell? ⟨H, 2, none⟩ = some (vI f.V) := by rw [cell_of0 hb]; rfl
  have c3 : wa.cell? ⟨H, 3, none⟩ = some (.slice a f.code.length c) := by rw [cell_of0 hb]; rfl
  obtain ⟨wb, hwb⟩ : ∃ wb, wb = wa.alloc (.cells #[vI f.P, vI f.R, vI f.V, .slice a f.code.length c] 30) := ⟨_, rfl⟩
  have HWB : Hd (wb = wa.alloc (.cells #[vI f.P, vI f.R, vI f.V, .slice a f.code.length c] 30)) := hwb
  have hFb : Fr (fun _ => False) wa wb := by rw [hwb]; exact Fr.alloc (Fr.refl _ wa) _
  have HF : Hd (Fr (fun _ => False) w wb) := hFa.trans hFb
  have HB : Hd (wb.heap[H]? = some (.cells #[vI f.P, vI f.R, vI f.V, .slice a f.code.length c] 30)) := (hFb.block H (heap_lt0 hb) (fun e => e)).trans hb
  have HC : Hd (CA wb (.slice a f.code.length c) f.code) := h.stay (hFa.trans hFb)
  have HS : Hd (∀ wx, Fr (fun _ => False) wb wx → wx.cell? ⟨H, 0, none⟩ = some (vI f.P) ∧ wx.cell? ⟨H, 1, none⟩ = some (vI f.R) ∧ wx.cell? ⟨H, 2, none⟩ = some (vI f.V) ∧ wx.cell? ⟨H, 3, none⟩ = some (.slice a f.code.length c)) := fun wx hx => by
    have hb := (hx.block H (heap_lt0 HB.out) (fun e => e)).trans HB.out
    exact ⟨by rw [cell_of0 hb]; rfl, by rw [cell_of0 hb]; rfl, by rw [cell_of0 hb]; rfl, by rw [cell_of0 hb]; rfl⟩
  clear hwa hH hb hwb hFb hFa h
  go_enter Tryd.func21, Tryd.ntmps21
  go_upto_region 1 with fail
  rw [← HWA.out, ← HH.out]
  clear HWA
  go_wp2_with fail
  refine (show Calls Tryd.prog 33 #[.agg #[vI f.P, vI f.R, vI f.V, .slice a f.code.length c]] wa _ from numbered_any f.P f.R f.V a _ c wa).mono ?_
  rintro e w1 ⟨rfl, rfl⟩
  rw [← HWB.out]
  clear HWB c0 c1 c2 c3
  obtain ⟨s0, s1, s2, s3⟩ := HS.out wb (Fr.refl _ wb)
  by_cases hq0 : 0 ≤ f.R ∧ 0 ≤ f.V
  · have d0 : decide (0 ≤ f.R ∧ 0 ≤ f.V) = true := by simpa using hq0
    rw [d0]
    clear d0
    by_cases hq1 : 0 ≤ at'
    · have d1 : decide (at' < 0) = false := by simp; omega
      by_cases hq2 : at' < f.code.length
      · have d2 : decide (at' ≥ f.code.length) = false := by simp; omega
        obtain ⟨m, rfl⟩ := Int.eq_ofNat_of_zero_le hq1
        have hml : m < f.code.length := by omega
        obtain ⟨a', c', e, H0⟩ := id HC.out
        cases e
        obtain ⟨ck, co, ea, hck, hcs⟩ := H0 (by intro e; simp [e] at hml)
        obtain ⟨av, rv, x0, -⟩ := hcs m hml
        have hop : (f.code[((m : Int)).toNat]?.map (·.op)) = some f.code[m].op := by simp [hml]
        have hm0 : (0 : Int) ≤ m := by omega
        have hm1 : (m : Int) < f.code.length := by omega
        have hmc : (m : Int) ≤ c := by omega
        have HOP : Hd ((f.code[((m : Int)).toNat]?.map (·.op)) = some f.code[m].op) := hop
        generalize f.code[m].op = op at *
        subst ea
        clear hcs hop H0
        by_cases h6 : op = 6
        · have d6 : (op != 6) = false := by simp [h6]
          have d7 : decide (op ≠ 6) = false := by simp [h6]
          have HX : Hd (fcelX f.R f.V m f.code = wrap64 (cellX f.R f.V + (newsX (f.code.take m) : Nat))) := by
            unfold Hd fcelX; rw [if_pos ⟨hq0.1, hq0.2, hq1, hq2, by rw [HOP.out, h6]⟩]; simp
          clear h6 hq0 hq1 hq2
          go_upto_region 3 with fail
          go_cut [4] (fun x2 wx => x2 = vI (wrap64 (cellX f.R f.V + (newsX (f.code.take m) : Nat))) ∧ Hd (Fr (fun _ => False) wb wx))
          case first =>
            go_region_with ((
              first
                | (go_at_call 34
                   first
                     | (refine (show Calls Tryd.prog 34 #[.agg #[vI f.P, vI f.R, vI f.V, .slice (some ⟨ck, co, none⟩) f.code.length c]] wb.drew _ from firstCell_any f.P f.R f.V _ _ c wb.drew).mono ?_
                        rintro e w3 ⟨rfl, hw3⟩
                        have HF3 : Hd (Fr (fun _ => False) wb w3) := by unfold Hd; rw [hw3]; exact Fr.alloc (Fr.drew (Fr.refl _ wb)) _
                        obtain ⟨s0, s1, s2, s3⟩ := HS.out w3 HF3.out
                        clear hw3)
                     | (refine (show Calls Tryd.prog 34 #[.agg #[vI f.P, vI f.R, vI f.V, .slice (some ⟨ck, co, none⟩) f.code.length c]] w4 _ from firstCell_any f.P f.R f.V _ _ c w4).mono ?_
                        rintro e w3 ⟨rfl, hw3⟩
                        have HF3 : Hd (Fr (fun _ => False) wb w3) := by unfold Hd; rw [hw3]; exact HF4.out.alloc _
                        obtain ⟨s0, s1, s2, s3⟩ := HS.out w3 HF3.out
                        clear hw3))
                | (go_at_call 35
                   first
                     | (refine (show Calls Tryd.prog 35 #[.slice (some ⟨ck, co, none⟩) m c] wb.drew _ from news_any _ (f.code.take m) wb.drew ((HC.out.stay (Fr.drew (Fr.refl (fun _ => False) wb))).taken m (by omega)) (by rw [List.length_take]; omega)).mono ?_
                        rintro e w4 ⟨rfl, hF4⟩
                        have HF4 : Hd (Fr (fun _ => False) wb w4) := Fr.trans (Fr.drew (Fr.refl (fun _ => False) wb)) hF4
                        obtain ⟨s0, s1, s2, s3⟩ := HS.out w4 HF4.out
                        clear hF4)
                     | (refine (show Calls Tryd.prog 35 #[.slice (some ⟨ck, co, none⟩) m c] w3 _ from news_any _ (f.code.take m) w3 ((HC.out.stay HF3.out).taken m (by omega)) (by rw [List.length_take]; omega)).mono ?_
                        rintro e w4 ⟨rfl, hF4⟩
                        have HF4 : Hd (Fr (fun _ => False) wb w4) := Fr.trans HF3.out hF4
                        obtain ⟨s0, s1, s2, s3⟩ := HS.out w4 HF4.out
                        clear hF4))))
            all_goals
              go_wp2_with fail
              go_meet
              first
                | exact ⟨i64w _, HF4.out⟩
                | exact ⟨i64w _, HF3.out⟩
                | exact ⟨rfl, HF4.out⟩
                | exact ⟨rfl, HF3.out⟩
          case rest =>
            obtain ⟨rfl, HFx⟩ := hcut
            go_wp2_with fail
            go_ret
            exact ⟨by rw [HX.out]; rfl, HF.out.trans HFx.out⟩
        · have d6 : (op != 6) = true := by simp [h6]
          have d7 : decide (op ≠ 6) = true := by simp [h6]
          have HX : Hd (fcelX f.R f.V m f.code = -1) := if_neg (fun h => h6 (by have := h.2.2.2.2; rw [HOP.out] at this; exact Option.some.inj this))
          clear h6 hq0 hq1 hq2
          go_wp2_with fail
          go_ret
          exact ⟨by rw [HX.out]; rfl, HF.out⟩
      · have d2 : decide (at' ≥ f.code.length) = true := by simp; omega
        have HX : Hd (fcelX f.R f.V at' f.code = -1) := if_neg (fun h => hq2 h.2.2.2.1)
        clear hq0 hq1 hq2
        go_wp2_with fail
        go_ret
        exact ⟨by rw [HX.out]; rfl, HF.out⟩
    · have d1 : decide (at' < 0) = true := by simp; omega
      have HX : Hd (fcelX f.R f.V at' f.code = -1) := if_neg (fun h => hq1 h.2.2.1)
      clear hq0 hq1
      go_wp2_with fail
      go_ret
      exact ⟨by rw [HX.out]; rfl, HF.out⟩
  · have d0 : decide (0 ≤ f.R ∧ 0 ≤ f.V) = false := by simpa using hq0
    rw [d0]
    clear d0
    have HX : Hd (fcelX f.R f.V at' f.code = -1) := if_neg (fun h => hq0 ⟨h.1, h.2.1⟩)
    clear hq0
    go_wp2_with fail
    go_ret
    exact ⟨by rw [HX.out]; rfl, HF.out⟩

end Go.Proofs.YtlmlmhinbkcpoaaDoor
