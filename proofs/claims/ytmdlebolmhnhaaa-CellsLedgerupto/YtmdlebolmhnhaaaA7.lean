import Derived.Test.YtmdlebolmhnhaaaA6
namespace Go.Proofs.Ytmdlebolmhnhaaa
open Go.RowKit (wrap32 wrap64)
open Go.Maps (Keyed)
set_option linter.unusedVariables false
set_option linter.unusedSimpArgs false

set_option maxRecDepth 100000 in
set_option maxHeartbeats 1000000 in
theorem store_any (b : Nat) (g : Gh) (a : Abs) (v : Val) (f : Int) (x : Val) (w : World) (h : Mem w b g a) (hm : a.made ≤ 1000000000000000) :
    Calls Try.prog 14 #[.pointer (some ⟨b, 0, none⟩), vv v, vI f, vv x] w fun e w' => e = .returned (vI (storeX a v f x).2) ∧ Mem w' b g (storeX a v f x).1 ∧ Fr (fun j => g.own j ≠ 0) w w' := by
  obtain ⟨A1, A2, A3, hF⟩ := alloc2 w (.cells #[vI v.1, vI v.2] 32) (.cells #[vI x.1, vI x.2] 32)
  have hM := h.keep hF
  go_enter Try.func14, Try.ntmps14
  go_wp2_with fail
  generalize (w.alloc (.cells #[vI v.1, vI v.2] 32)).alloc (.cells #[vI x.1, vI x.2] 32) = w1 at *
  refine (right_any b a.made v w1 hM.facts.2.1 hM.lt).mono ?_
  rintro e w2 ⟨rfl, hw2⟩
  have hF12 : Fr (fun _ => False) w1 w2 := by rw [hw2]; exact Fr.alloc (Fr.refl _ w1) _
  clear hw2
  have B1 := (hF12.block _ (heap_lt A1) (fun h => h)).trans A1
  have B2 := (hF12.block _ (heap_lt A2) (fun h => h)).trans A2
  have hM2 := hM.keep hF12
  have hF2 := hF.trans hF12
  clear hM A1 A2 hF hF12 h
  have d1 : w2.cell? ⟨w.heap.size, 0, none⟩ = some (vI v.1) := by rw [cell_of B1]; rfl
  have d2 : w2.cell? ⟨w.heap.size, 1, none⟩ = some (vI v.2) := by rw [cell_of B1]; rfl
  have d3 : w2.cell? ⟨w.heap.size + 1, 0, none⟩ = some (vI x.1) := by rw [cell_of B2]; rfl
  have d4 : w2.cell? ⟨w.heap.size + 1, 1, none⟩ = some (vI x.2) := by rw [cell_of B2]; rfl
  cases hr : rightB a.made v with
  | false =>
    have HX : Hd (storeX a v f x = (a, 1)) := by unfold Hd; simp [storeX, hr]
    go_wp2_with fail
    go_ret
    rw [HX.out]
    exact ⟨rfl, hM2, hF2.mono (fun _ _ h => h.elim)⟩
  | true =>
    go_wp2_with fail
    refine (right_any b a.made x w2 hM2.facts.2.1 hM2.lt).mono ?_
    rintro e w3 ⟨rfl, hw3⟩
    have hF23 : Fr (fun _ => False) w2 w3 := by rw [hw3]; exact Fr.alloc (Fr.refl _ w2) _
    clear hw3
    have C1 := (hF23.block _ (heap_lt B1) (fun h => h)).trans B1
    have C2 := (hF23.block _ (heap_lt B2) (fun h => h)).trans B2
    have hM3 := hM2.keep hF23
    have hF3 := hF2.trans hF23
    clear d1 d2 d3 d4 hM2 hF2 hF23 B1 B2
    have d1 : w3.cell? ⟨w.heap.size, 0, none⟩ = some (vI v.1) := by rw [cell_of C1]; rfl
    have d2 : w3.cell? ⟨w.heap.size, 1, none⟩ = some (vI v.2) := by rw [cell_of C1]; rfl
    cases hx : rightB a.made x with
    | false =>
      have HX : Hd (storeX a v f x = (a, 1)) := by unfold Hd; simp [storeX, hx]
      go_wp2_with fail
      go_ret
      rw [HX.out]
      exact ⟨rfl, hM3, hF3.mono (fun _ _ h => h.elim)⟩
    | true =>
      go_wp2_with fail
      refine (follow_any b g a v f w3 hM3 hr hm).mono ?_
      rintro e w4 ⟨rfl, hF34⟩
      have E2 := (hF34.block _ (heap_lt C2) (fun h => h)).trans C2
      have hM4 := hM3.keep hF34
      have hF4 := (hF3.trans hF34).mono (T := fun j => g.own j ≠ 0) (fun _ _ h => h.elim)
      clear d1 d2 hM3 hF3 hF34 C1 C2
      by_cases h2 : v.1 = 2
      · cases hc : a.cells v.2.toNat with
        | none =>
          have HX : Hd (storeX a v f x = (a, 32)) := by unfold Hd; simp [storeX, hr, hx, h2, hc]
          have hY : followX g a v f = (.slice none 0 0, 32) := by simp [followX, h2, hc]
          rw [hY]
          clear hY
          go_wp2_with fail
          go_ret
          rw [HX.out]
          exact ⟨rfl, hM4, hF4⟩
        | some l =>
          by_cases hf : 0 ≤ f ∧ f < l.length
          · obtain ⟨i, rfl⟩ := Int.eq_ofNat_of_zero_le hf.1
            have hi : i < l.length := by omega
            have HX : Hd (storeX a v i x = ({ a with cells := upd a.cells v.2.toNat (some (l.set i x)) }, 0)) := by unfold Hd; simp [storeX, hr, hx, h2, hc, hi]
            have hY : followX g a v i = (.slice (some ⟨g.blk v.2.toNat, 0, none⟩) l.length l.length, 0) := by simp [followX, h2, hc, hi]
            rw [hY]
            clear hY
            have HS : Hd _ := hM4.store hc hi x
            obtain ⟨k1, k2, k3, k4, k5⟩ := hM4.cell _ _ hc
            have m1 : w4.cell? ⟨g.blk v.2.toNat, i * 2, none⟩ = some (vI l[i].1) := by
              rw [cell_of k1, Nat.mul_comm]; simpa using flat_fst l i hi
            have m2 : w4.cell? ⟨g.blk v.2.toNat, i * 2 + 1, none⟩ = some (vI l[i].2) := by
              rw [cell_of k1, Nat.mul_comm]; simpa using flat_snd l i hi
            have z1 : w4.frozen? ⟨g.blk v.2.toNat, i * 2, none⟩ = false := frozen_of k1 _
            have z2 : w4.frozen? ⟨g.blk v.2.toNat, i * 2 + 1, none⟩ = false := frozen_of k1 _
            have d3 : w4.cell? ⟨w.heap.size + 1, 0, none⟩ = some (vI x.1) := by rw [cell_of E2]; rfl
            have d4 : w4.cell? ⟨w.heap.size + 1, 1, none⟩ = some (vI x.2) := by rw [cell_of E2]; rfl
            have hi0 : (0 : Int) ≤ i := by omega
            have hi1 : (i : Int) < l.length := by omega
            clear hM4 hc hr hx h2 k1 k2
            go_wp2_with fail
            go_ret
            rw [HX.out]
            exact ⟨rfl, HS.out.1, hF4.trans HS.out.2⟩
          · have HX : Hd (storeX a v f x = (a, 33)) := by unfold Hd; simp [storeX, hr, hx, h2, hc, hf]
            have hY : followX g a v f = (.slice none 0 0, 33) := by simp [followX, h2, hc, hf]
            rw [hY]
            clear hY
            go_wp2_with fail
            go_ret
            rw [HX.out]
            exact ⟨rfl, hM4, hF4⟩
      · have HX : Hd (storeX a v f x = (a, 31)) := by unfold Hd; simp [storeX, hr, hx, h2]
        have hY : followX g a v f = (.slice none 0 0, 31) := by simp [followX, h2]
        rw [hY]
        clear hY
        go_wp2_with fail
        go_ret
        rw [HX.out]
        exact ⟨rfl, hM4, hF4⟩

end Go.Proofs.Ytmdlebolmhnhaaa
