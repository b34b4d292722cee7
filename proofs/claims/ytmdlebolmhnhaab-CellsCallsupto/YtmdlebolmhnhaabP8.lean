import Derived.Test.YtmdlebolmhnhaabP6J
namespace Go.Proofs.Ytmdlebolmhnhaab
open Go.RowKit (wrap32 wrap64)
open Go.Maps (Keyed)
set_option linter.unusedVariables false
set_option linter.unusedSimpArgs false

set_option maxRecDepth 100000 in
set_option maxHeartbeats 2000000 in
theorem rglobal_any (b : Nat) (g : RG) (a : RA) (n : Int) (w : World) (h : RMem w b g a) (hg : a.gl.length ≤ 16) :
    Calls Try.prog 24 #[rptr b, vI n] w fun e w' => e = .returned (.tuple #[vv (rglobalX a n).1, vI (rglobalX a n).2]) ∧ Fr (fun _ => False) w w' := by
  have hF : Fr (fun _ => False) w (w.alloc (.cells #[vI 0, vI 0] 28)) := Fr.alloc (Fr.refl _ w) _
  have hM := h.keep hF
  have B := heap_alloc_last w (.cells #[vI 0, vI 0] 28)
  obtain ⟨c0, c1, c2⟩ := hM.heads
  obtain ⟨ad, cap, hgv, -, had⟩ := row_shape hM.gls
  rw [hgv] at c0
  have e3 : (w.alloc (.cells #[vI 0, vI 0] 28)).cell? ⟨w.heap.size, 0, none⟩ = some (vI 0) := by rw [cell_of B]; rfl
  have e4 : (w.alloc (.cells #[vI 0, vI 0] 28)).cell? ⟨w.heap.size, 1, none⟩ = some (vI 0) := by rw [cell_of B]; rfl
  have y3 : (w.alloc (.cells #[vI 0, vI 0] 28)).frozen? ⟨w.heap.size, 0, none⟩ = false := frozen_of B 0
  have y4 : (w.alloc (.cells #[vI 0, vI 0] 28)).frozen? ⟨w.heap.size, 1, none⟩ = false := frozen_of B 1
  have hlt : w.heap.size < (w.alloc (.cells #[vI 0, vI 0] 28)).heap.size := heap_lt B
  have HB : Hd _ := B
  have HF : Hd _ := hF
  by_cases h0 : n < 0
  · have d0 : decide (n < 0) = true := by simpa using h0
    have HX : Hd (rglobalX a n = ((0, 0), 1)) := by unfold Hd rglobalX; rw [if_neg (by omega)]
    clear hM hF h B hgv had c1 c2
    go_enter Try.func24, Try.ntmps24
    go_wp2_with fail
    generalize w.alloc (.cells #[vI 0, vI 0] 28) = w1 at *
    refine bodyPost_ret (by simp [results, Try.results24, go_sem, e3, e4]; try rfl) rfl ?_
    exact ⟨by rw [HX.out], HF.out⟩
  · have d0 : decide (n < 0) = false := by simpa using h0
    by_cases h1 : n < a.gl.length
    · have d1 : decide ((a.gl.length : Int) ≤ n) = false := by simpa using h1
      obtain ⟨i, rfl⟩ := Int.eq_ofNat_of_zero_le (show 0 ≤ n by omega)
      have hi : i < a.gl.length := by omega
      obtain ⟨gb, rfl⟩ := had (by omega)
      have hrow := hM.gls
      rw [hgv] at hrow
      have HX : Hd (rglobalX a (i : Int) = (a.gl[i], 0)) := by
        unfold Hd rglobalX
        rw [if_pos (by omega), Int.toNat_natCast, List.getD_eq_getElem?_getD, List.getElem?_eq_getElem hi]
        rfl
      have m1 : (w.alloc (.cells #[vI 0, vI 0] 28)).cell? ⟨gb, i * 2, none⟩ = some (vI a.gl[i].1) := row_cell hrow (by rw [Nat.mul_comm]; exact flat_fst _ i hi)
      have m2 : (w.alloc (.cells #[vI 0, vI 0] 28)).cell? ⟨gb, i * 2 + 1, none⟩ = some (vI a.gl[i].2) := row_cell hrow (by rw [Nat.mul_comm]; exact flat_snd _ i hi)
      have hi0 : (0 : Int) ≤ i := by omega
      have hi1 : (i : Int) < a.gl.length := by omega
      generalize a.gl[i] = x at *
      clear hM hF h B hgv had c1 c2 hrow
      go_enter Try.func24, Try.ntmps24
      go_wp2_with fail
      have B5 := heap_alloc_last w (.cells #[vI x.1, vI x.2] 28)
      have q0 : (w.alloc (.cells #[vI x.1, vI x.2] 28)).cell? ⟨w.heap.size, 0, none⟩ = some (vI x.1) := by rw [cell_of B5]; rfl
      have q1 : (w.alloc (.cells #[vI x.1, vI x.2] 28)).cell? ⟨w.heap.size, 1, none⟩ = some (vI x.2) := by rw [cell_of B5]; rfl
      refine bodyPost_ret (by simp [results, Try.results24, go_sem, q0, q1]; try rfl) rfl ?_
      exact ⟨by rw [HX.out], Fr.alloc (Fr.refl _ w) _⟩
    · have d1 : decide ((a.gl.length : Int) ≤ n) = true := by simp; omega
      have HX : Hd (rglobalX a n = ((0, 0), 1)) := by unfold Hd rglobalX; rw [if_neg (by omega)]
      clear hM hF h B hgv had c1 c2
      go_enter Try.func24, Try.ntmps24
      go_wp2_with fail
      generalize w.alloc (.cells #[vI 0, vI 0] 28) = w1 at *
      refine bodyPost_ret (by simp [results, Try.results24, go_sem, e3, e4]; try rfl) rfl ?_
      exact ⟨by rw [HX.out], HF.out⟩

set_option maxRecDepth 100000 in
set_option maxHeartbeats 2000000 in
theorem rsetGlobal_any (b : Nat) (g : RG) (a : RA) (n : Int) (x : Val) (w : World) (h : RMem w b g a) (hg : a.gl.length ≤ 16) :
    Calls Try.prog 38 #[rptr b, vI n, vv x] w fun e w' => e = .returned (vI (rsetGlobalX a n x).2) ∧ RMem w' b g (rsetGlobalX a n x).1 ∧ Fr (fun j => g.own j ≠ 0) w w' := by
  have hF : Fr (fun _ => False) w (w.alloc (.cells #[vI x.1, vI x.2] 28)) := Fr.alloc (Fr.refl _ w) _
  have hM := h.keep hF
  have B := heap_alloc_last w (.cells #[vI x.1, vI x.2] 28)
  obtain ⟨c0, c1, c2⟩ := hM.heads
  obtain ⟨ad, cap, hgv, -, had⟩ := row_shape hM.gls
  rw [hgv] at c0
  have HB : Hd _ := B
  have HF : Hd _ := hF
  have HM : Hd _ := hM
  by_cases h0 : n < 0
  · have d0 : decide (n < 0) = true := by simpa using h0
    have HX : Hd (rsetGlobalX a n x = (a, 1)) := by unfold Hd rsetGlobalX; rw [if_neg (by omega)]
    clear hM hF h B hgv had c1 c2
    go_enter Try.func38, Try.ntmps38
    go_wp2_with fail
    go_ret
    rw [HX.out]
    exact ⟨rfl, HM.out, HF.out.mono (fun _ _ h => h.elim)⟩
  · have d0 : decide (n < 0) = false := by simpa using h0
    by_cases h1 : n < a.gl.length
    · have d1 : decide ((a.gl.length : Int) ≤ n) = false := by simpa using h1
      obtain ⟨i, rfl⟩ := Int.eq_ofNat_of_zero_le (show 0 ≤ n by omega)
      have hi : i < a.gl.length := by omega
      obtain ⟨gb, rfl⟩ := had (by omega)
      have x0 : (w.alloc (.cells #[vI x.1, vI x.2] 28)).cell? ⟨w.heap.size, 0, none⟩ = some (vI x.1) := by rw [cell_of B]; rfl
      have x1 : (w.alloc (.cells #[vI x.1, vI x.2] 28)).cell? ⟨w.heap.size, 1, none⟩ = some (vI x.2) := by rw [cell_of B]; rfl
      have HGV : Hd _ := hgv
      have hi0 : (0 : Int) ≤ i := by omega
      have hi1 : (i : Int) < a.gl.length := by omega
      clear hM hF h B hgv had c1 c2
      go_enter Try.func38, Try.ntmps38
      go_wp2_with fail
      generalize w.alloc (.cells #[vI x.1, vI x.2] 28) = w1 at *
      refine (show Calls Try.prog 48 #[rptr b, vv x] w1 _ from rright_any b g a x w1 HM.out).mono ?_
      rintro e w2 ⟨rfl, hF2⟩
      have HM2 : Hd _ := HM.out.keep hF2
      have HF2 : Hd _ := HF.out.trans hF2
      have B2 := (hF2.block _ (heap_lt HB.out) (fun h => h)).trans HB.out
      clear hF2 HM HF x0 x1 c0
      cases hr : rightB a.cells.length x
      · have HX : Hd (rsetGlobalX a (i : Int) x = (a, 1)) := by unfold Hd rsetGlobalX; rw [if_pos (by omega), if_pos hr]
        clear hr B2
        go_wp2_with fail
        go_ret
        rw [HX.out]
        exact ⟨rfl, HM2.out, HF2.out.mono (fun _ _ h => h.elim)⟩
      · have HX : Hd (rsetGlobalX a (i : Int) x = ({ a with gl := a.gl.set i x }, 0)) := by unfold Hd rsetGlobalX; rw [if_pos (by omega), hr, if_neg (by simp), Int.toNat_natCast]
        have HS : Hd _ := HM2.out.setGl HGV.out hi x
        have hrow := HM2.out.gls
        rw [HGV.out] at hrow
        obtain ⟨cur, hcur⟩ := row_block hrow
        obtain ⟨c0, c1, c2⟩ := HM2.out.heads
        rw [HGV.out] at c0
        have m1 : w2.cell? ⟨gb, i * 2, none⟩ = some (vI a.gl[i].1) := row_cell hrow (by rw [Nat.mul_comm]; exact flat_fst _ i hi)
        have m2 : w2.cell? ⟨gb, i * 2 + 1, none⟩ = some (vI a.gl[i].2) := row_cell hrow (by rw [Nat.mul_comm]; exact flat_snd _ i hi)
        have z1 : w2.frozen? ⟨gb, i * 2, none⟩ = false := frozen_of hcur _
        have z2 : w2.frozen? ⟨gb, i * 2 + 1, none⟩ = false := frozen_of hcur _
        have x0 : w2.cell? ⟨w.heap.size, 0, none⟩ = some (vI x.1) := by rw [cell_of B2]; rfl
        have x1 : w2.cell? ⟨w.heap.size, 1, none⟩ = some (vI x.2) := by rw [cell_of B2]; rfl
        generalize a.gl[i] = old at *
        clear hr B2 hrow hcur c1 c2
        go_wp2_with fail
        go_region
        all_goals
          go_wp2_with fail
          go_ret
          rw [HX.out]
          exact ⟨rfl, HS.out.1.keep (Fr.drew (Fr.refl _ _)), ((HF2.out.mono (fun _ _ h => h.elim)).trans HS.out.2).drew⟩
    · have d1 : decide ((a.gl.length : Int) ≤ n) = true := by simp; omega
      have HX : Hd (rsetGlobalX a n x = (a, 1)) := by unfold Hd rsetGlobalX; rw [if_neg (by omega)]
      clear hM hF h B hgv had c1 c2
      go_enter Try.func38, Try.ntmps38
      go_wp2_with fail
      go_ret
      rw [HX.out]
      exact ⟨rfl, HM.out, HF.out.mono (fun _ _ h => h.elim)⟩

end Go.Proofs.Ytmdlebolmhnhaab
