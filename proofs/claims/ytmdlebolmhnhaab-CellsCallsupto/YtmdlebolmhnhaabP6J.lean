import Derived.Test.YtmdlebolmhnhaabP4J
namespace Go.Proofs.Ytmdlebolmhnhaab
open Go.RowKit (wrap32 wrap64)
open Go.Maps (Keyed)
set_option linter.unusedVariables false
set_option linter.unusedSimpArgs false

theorem atX_ok {a : RA} {v : Val} {f : Int} (h : atX a v f = 0) : ∃ (i j : Nat) (c : CellR), v = (2, (i : Int) + 1) ∧ a.cells[i]? = some c ∧ c.there = true ∧ f = (j : Int) ∧ j < c.fields.length := by
  obtain ⟨k, n⟩ := v
  unfold atX at h
  split at h
  · cases h
  rename_i hr
  split at h
  · cases h
  rename_i h2
  have h2 : k = 2 := by simpa using h2
  subst h2
  have hr : rightB a.cells.length (2, n) = true := by simpa using hr
  have hn : 1 ≤ n ∧ n ≤ a.cells.length := by simpa [rightB] using hr
  split at h
  · cases h
  rename_i c hc
  split at h
  · cases h
  rename_i ht
  split at h
  · rename_i hf
    obtain ⟨j, rfl⟩ := Int.eq_ofNat_of_zero_le hf.1
    refine ⟨(n - 1).toNat, j, c, by congr 1; omega, ?_, by simpa using ht, rfl, by omega⟩
    have e : (n - 1).toNat = n.toNat - 1 := by omega
    rw [e]
    exact hc
  · cases h

def rloadX (a : RA) (v : Val) (f : Int) : Val × Int :=
  if atX a v f ≠ 0 then ((0, 0), atX a v f) else
  match a.cells[v.2.toNat - 1]? with
  | none => ((0, 0), 0)
  | some c => (c.fields.getD f.toNat (0, 0), 0)

set_option maxRecDepth 100000 in
set_option maxHeartbeats 2000000 in
theorem rload_any (b : Nat) (g : RG) (a : RA) (v : Val) (f : Int) (w : World) (h : RMem w b g a) (hlen : a.cells.length ≤ 100000000) :
    Calls Try.prog 22 #[rptr b, vv v, vI f] w fun e w' => e = .returned (.tuple #[vv (rloadX a v f).1, vI (rloadX a v f).2]) ∧ Fr (fun _ => False) w w' := by
  obtain ⟨A1, A2, A3, hF⟩ := alloc2 w (.cells #[vI v.1, vI v.2] 28) (.cells #[vI 0, vI 0] 28)
  have HM : Hd _ := h.keep hF
  have d1 : ((w.alloc (.cells #[vI v.1, vI v.2] 28)).alloc (.cells #[vI 0, vI 0] 28)).cell? ⟨w.heap.size, 0, none⟩ = some (vI v.1) := by rw [cell_of A1]; rfl
  have d2 : ((w.alloc (.cells #[vI v.1, vI v.2] 28)).alloc (.cells #[vI 0, vI 0] 28)).cell? ⟨w.heap.size, 1, none⟩ = some (vI v.2) := by rw [cell_of A1]; rfl
  have HF : Hd _ := hF
  have HA1 : Hd _ := A1
  have HA2 : Hd _ := A2
  clear h hF A1 A2 A3
  go_enter Try.func22, Try.ntmps22
  go_wp2_with fail
  generalize (w.alloc (.cells #[vI v.1, vI v.2] 28)).alloc (.cells #[vI 0, vI 0] 28) = w1 at *
  refine (show Calls Try.prog 42 #[rptr b, vv v, vI f] w1 _ from rat_any b g a v f w1 HM.out hlen).mono ?_
  rintro e w3 ⟨rfl, hF23⟩
  have C1 := (hF23.block _ (heap_lt HA1.out) (fun h => h)).trans HA1.out
  have C2 := (hF23.block _ (heap_lt HA2.out) (fun h => h)).trans HA2.out
  have HM3 : Hd _ := HM.out.keep hF23
  have HF3 : Hd _ := HF.out.trans hF23
  have e3 : w3.cell? ⟨w.heap.size + 1, 0, none⟩ = some (vI 0) := by rw [cell_of C2]; rfl
  have e4 : w3.cell? ⟨w.heap.size + 1, 1, none⟩ = some (vI 0) := by rw [cell_of C2]; rfl
  have y3 : w3.frozen? ⟨w.heap.size + 1, 0, none⟩ = false := frozen_of C2 0
  have y4 : w3.frozen? ⟨w.heap.size + 1, 1, none⟩ = false := frozen_of C2 1
  have hlt3 : w.heap.size + 1 < w3.heap.size := heap_lt C2
  have HC2 : Hd _ := C2
  clear d1 d2 hF23 HA1 HA2 HM HF C2
  by_cases h0 : atX a v f = 0
  · obtain ⟨i, j, c, hv, hc, ht, hf, hj⟩ := atX_ok h0
    subst hv
    subst hf
    have HX : Hd (rloadX a (2, (i : Int) + 1) (j : Int) = (c.fields[j], 0)) := by
      unfold Hd rloadX
      rw [h0, if_neg (by simp)]
      simp only [show ((i : Int) + 1).toNat - 1 = i by omega, hc, Int.toNat_natCast, List.getD_eq_getElem?_getD, List.getElem?_eq_getElem hj]
      rfl
    rw [h0]
    obtain ⟨cb, cap, u, hcv, hu, q0, q1, q2, hrow⟩ := HM3.out.cellAt hc
    obtain ⟨fa, fc, rfl, -, hfa⟩ := row_shape hrow
    obtain ⟨fb, rfl⟩ := hfa (by omega)
    obtain ⟨c0, c1, c2⟩ := HM3.out.heads
    rw [hcv] at c2
    have m1 : w3.cell? ⟨fb, j * 2, none⟩ = some (vI c.fields[j].1) := row_cell hrow (by rw [Nat.mul_comm]; exact flat_fst _ j hj)
    have m2 : w3.cell? ⟨fb, j * 2 + 1, none⟩ = some (vI c.fields[j].2) := row_cell hrow (by rw [Nat.mul_comm]; exact flat_snd _ j hj)
    have v1 : w3.cell? ⟨w.heap.size, 1, none⟩ = some (vI ((i : Int) + 1)) := by rw [cell_of C1]; rfl
    have hil : i < a.cells.length := (List.getElem?_eq_some_iff.1 hc).1
    have hi0 : (0 : Int) ≤ i := by omega
    have hi1 : (i : Int) < a.cells.length := by omega
    have hj0 : (0 : Int) ≤ j := by omega
    have hj1 : (j : Int) < c.fields.length := by omega
    generalize c.fields[j] = x at *
    clear C1 h0 hrow hu hcv hc q1 q2 ht c0 c1
    go_wp2_with fail
    go_region
    all_goals
      go_wp2_with fail
      obtain ⟨q0, q1⟩ := res_cells HC2.out (vI x.1) (vI x.2)
      refine bodyPost_ret (by simp [results, Try.results22, go_sem, q0, q1]; try rfl) rfl ?_
      exact ⟨by rw [HX.out], (Fr.setCell (Fr.setCell HF3.out _ _ (Or.inr (by simp))) _ _ (Or.inr (by simp))).drew⟩
  · have HX : Hd (rloadX a v f = ((0, 0), atX a v f)) := by unfold Hd rloadX; rw [if_pos h0]
    have b0 := eqb_false h0
    generalize atX a v f = er at *
    clear C1
    go_wp2_with fail
    obtain ⟨q0, q1⟩ := res_cells HC2.out (vI 0) (vI 0)
    refine bodyPost_ret (by simp [results, Try.results22, go_sem, q0, q1]; try rfl) rfl ?_
    exact ⟨by rw [HX.out], Fr.setCell (Fr.setCell HF3.out _ _ (Or.inr (by simp))) _ _ (Or.inr (by simp))⟩

end Go.Proofs.Ytmdlebolmhnhaab

namespace Go.Proofs.Ytmdlebolmhnhaab
open Go.RowKit (wrap32 wrap64)
open Go.Maps (Keyed)
set_option linter.unusedVariables false
set_option linter.unusedSimpArgs false

def rstoreX (a : RA) (v : Val) (f : Int) (x : Val) : RA × Int :=
  if rightB a.cells.length x = false then (a, 1) else
  if atX a v f ≠ 0 then (a, atX a v f) else
  match a.cells[v.2.toNat - 1]? with
  | none => (a, 0)
  | some c => ({ a with cells := a.cells.set (v.2.toNat - 1) { c with fields := c.fields.set f.toNat x } }, 0)

set_option maxRecDepth 100000 in
set_option maxHeartbeats 2000000 in
theorem rstore_any (b : Nat) (g : RG) (a : RA) (v : Val) (f : Int) (x : Val) (w : World) (h : RMem w b g a) (hlen : a.cells.length ≤ 100000000) :
    Calls Try.prog 36 #[rptr b, vv v, vI f, vv x] w fun e w' => e = .returned (vI (rstoreX a v f x).2) ∧ RMem w' b g (rstoreX a v f x).1 ∧ Fr (fun j => g.own j ≠ 0) w w' := by
  obtain ⟨A1, A2, A3, hF⟩ := alloc2 w (.cells #[vI v.1, vI v.2] 28) (.cells #[vI x.1, vI x.2] 28)
  have HM : Hd _ := h.keep hF
  have d1 : ((w.alloc (.cells #[vI v.1, vI v.2] 28)).alloc (.cells #[vI x.1, vI x.2] 28)).cell? ⟨w.heap.size + 1, 0, none⟩ = some (vI x.1) := by rw [cell_of A2]; rfl
  have d2 : ((w.alloc (.cells #[vI v.1, vI v.2] 28)).alloc (.cells #[vI x.1, vI x.2] 28)).cell? ⟨w.heap.size + 1, 1, none⟩ = some (vI x.2) := by rw [cell_of A2]; rfl
  have HF : Hd _ := hF
  have HA1 : Hd _ := A1
  have HA2 : Hd _ := A2
  clear h hF A1 A2 A3
  go_enter Try.func36, Try.ntmps36
  go_wp2_with fail
  generalize (w.alloc (.cells #[vI v.1, vI v.2] 28)).alloc (.cells #[vI x.1, vI x.2] 28) = w1 at *
  refine (show Calls Try.prog 48 #[rptr b, vv x] w1 _ from rright_any b g a x w1 HM.out).mono ?_
  rintro e w2 ⟨rfl, hF2⟩
  have C1 := (hF2.block _ (heap_lt HA1.out) (fun h => h)).trans HA1.out
  have C2 := (hF2.block _ (heap_lt HA2.out) (fun h => h)).trans HA2.out
  have HM2 : Hd _ := HM.out.keep hF2
  have HF2 : Hd _ := HF.out.trans hF2
  have HC1 : Hd _ := C1
  have HC2 : Hd _ := C2
  clear d1 d2 hF2 HA1 HA2 HM HF C2
  cases hr : rightB a.cells.length x
  · have HX : Hd (rstoreX a v f x = (a, 1)) := by unfold Hd rstoreX; rw [if_pos hr]
    clear hr C1
    go_wp2_with fail
    go_ret
    rw [HX.out]
    exact ⟨rfl, HM2.out, HF2.out.mono (fun _ _ h => h.elim)⟩
  · have p0 : w2.cell? ⟨w.heap.size, 0, none⟩ = some (vI v.1) := by rw [cell_of C1]; rfl
    have p1 : w2.cell? ⟨w.heap.size, 1, none⟩ = some (vI v.2) := by rw [cell_of C1]; rfl
    have HR : Hd _ := hr
    clear hr C1
    go_wp2_with fail
    refine (show Calls Try.prog 42 #[rptr b, vv v, vI f] w2 _ from rat_any b g a v f w2 HM2.out hlen).mono ?_
    rintro e w3 ⟨rfl, hF3⟩
    have D1 := (hF3.block _ (heap_lt HC1.out) (fun h => h)).trans HC1.out
    have D2 := (hF3.block _ (heap_lt HC2.out) (fun h => h)).trans HC2.out
    have HM3 : Hd _ := HM2.out.keep hF3
    have HF3 : Hd _ := HF2.out.trans hF3
    clear p0 p1 hF3 HM2 HF2
    by_cases h0 : atX a v f = 0
    · obtain ⟨i, j, c, hv, hc, ht, hf, hj⟩ := atX_ok h0
      subst hv
      subst hf
      have HX : Hd (rstoreX a (2, (i : Int) + 1) (j : Int) x = ({ a with cells := a.cells.set i { c with fields := c.fields.set j x } }, 0)) := by
        unfold Hd rstoreX
        rw [HR.out, h0, if_neg (by simp), if_neg (by simp)]
        simp only [show ((i : Int) + 1).toNat - 1 = i by omega, hc, Int.toNat_natCast]
      rw [h0]
      obtain ⟨cb, cap, u, hcv, hu, q0, q1, q2, hrow⟩ := HM3.out.cellAt hc
      obtain ⟨fa, fc, rfl, -, hfa⟩ := row_shape hrow
      obtain ⟨fb, rfl⟩ := hfa (by omega)
      obtain ⟨c0, c1, c2⟩ := HM3.out.heads
      rw [hcv] at c2
      have HS : Hd _ := HM3.out.setFl hu hc hj x
      obtain ⟨cur, hcur⟩ := row_block hrow
      have m1 : w3.cell? ⟨fb, j * 2, none⟩ = some (vI c.fields[j].1) := row_cell hrow (by rw [Nat.mul_comm]; exact flat_fst _ j hj)
      have m2 : w3.cell? ⟨fb, j * 2 + 1, none⟩ = some (vI c.fields[j].2) := row_cell hrow (by rw [Nat.mul_comm]; exact flat_snd _ j hj)
      have z1 : w3.frozen? ⟨fb, j * 2, none⟩ = false := frozen_of hcur _
      have z2 : w3.frozen? ⟨fb, j * 2 + 1, none⟩ = false := frozen_of hcur _
      have v1 : w3.cell? ⟨w.heap.size, 1, none⟩ = some (vI ((i : Int) + 1)) := by rw [cell_of D1]; rfl
      have x0 : w3.cell? ⟨w.heap.size + 1, 0, none⟩ = some (vI x.1) := by rw [cell_of D2]; rfl
      have x1 : w3.cell? ⟨w.heap.size + 1, 1, none⟩ = some (vI x.2) := by rw [cell_of D2]; rfl
      have hil : i < a.cells.length := (List.getElem?_eq_some_iff.1 hc).1
      have hi0 : (0 : Int) ≤ i := by omega
      have hi1 : (i : Int) < a.cells.length := by omega
      have hj0 : (0 : Int) ≤ j := by omega
      have hj1 : (j : Int) < c.fields.length := by omega
      generalize c.fields[j] = old at *
      clear D1 D2 h0 hrow hu hcv hc q1 q2 ht c0 c1 hcur HC1 HC2
      go_wp2_with fail
      go_region
      all_goals
        go_wp2_with fail
        go_ret
        rw [HX.out]
        exact ⟨rfl, HS.out.1.keep (Fr.drew (Fr.refl _ _)), ((HF3.out.mono (fun _ _ h => h.elim)).trans HS.out.2).drew⟩
    · have HX : Hd (rstoreX a v f x = (a, atX a v f)) := by unfold Hd rstoreX; rw [HR.out, if_neg (by simp), if_pos h0]
      have b0 := eqb_false h0
      generalize atX a v f = er at *
      clear D1 D2
      go_wp2_with fail
      go_ret
      rw [HX.out]
      exact ⟨rfl, HM3.out, HF3.out.mono (fun _ _ h => h.elim)⟩

def rglobalX (a : RA) (n : Int) : Val × Int := if 0 ≤ n ∧ n < a.gl.length then (a.gl.getD n.toNat (0, 0), 0) else ((0, 0), 1)
def rsetGlobalX (a : RA) (n : Int) (x : Val) : RA × Int :=
  if 0 ≤ n ∧ n < a.gl.length then (if rightB a.cells.length x = false then (a, 1) else ({ a with gl := a.gl.set n.toNat x }, 0)) else (a, 1)

end Go.Proofs.Ytmdlebolmhnhaab
