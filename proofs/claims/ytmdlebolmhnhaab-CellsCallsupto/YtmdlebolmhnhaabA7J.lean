import Derived.Test.YtmdlebolmhnhaabA5J
import Derived.Laws.MakeOwn
namespace Go.Proofs.Ytmdlebolmhnhaab
open Go.RowKit (wrap32 wrap64)
open Go.Maps (Keyed)
set_option linter.unusedVariables false
set_option linter.unusedSimpArgs false

set_option maxRecDepth 100000 in
set_option maxHeartbeats 1000000 in
theorem store_any (b : Nat) (g : Gh) (a : Abs) (v : Val) (f : Int) (x : Val) (w : World) (h : Mem w b g a) (hm : a.made ≤ 1000000000000000) :
    Calls Try.prog 11 #[.pointer (some ⟨b, 0, none⟩), vv v, vI f, vv x] w fun e w' => e = .returned (vI (storeX a v f x).2) ∧ Mem w' b g (storeX a v f x).1 ∧ Fr (fun j => g.own j ≠ 0) w w' := by
  obtain ⟨A1, A2, A3, hF⟩ := alloc2 w (.cells #[vI v.1, vI v.2] 28) (.cells #[vI x.1, vI x.2] 28)
  have hM := h.keep hF
  go_enter Try.func11, Try.ntmps11
  go_wp2_with fail
  generalize (w.alloc (.cells #[vI v.1, vI v.2] 28)).alloc (.cells #[vI x.1, vI x.2] 28) = w1 at *
  refine (right_any b a.made v w1 hM.facts.2.1 hM.lt).mono ?_
  rintro e w2 ⟨rfl, hw2⟩
  have hF12 : Fr (fun _ => False) w1 w2 := by rw [hw2]; exact Fr.alloc (Fr.refl _ w1) _
  clear hw2
  have B1 := (hF12.block _ (heap_lt A1) (fun h => h)).trans A1
  have B2 := (hF12.block _ (heap_lt A2) (fun h => h)).trans A2
  have hM2 := hM.keep hF12
  have hF2 := hF.trans hF12
  clear hM A1 A2 hF hF12 h
  have d1 : w2.cell? ⟨w.heap.size, 0, none⟩ = some (vI v.1) := by rw [cell_of B1]; rfl
  have d2 : w2.cell? ⟨w.heap.size, 1, none⟩ = some (vI v.2) := by rw [cell_of B1]; rfl
  have d3 : w2.cell? ⟨w.heap.size + 1, 0, none⟩ = some (vI x.1) := by rw [cell_of B2]; rfl
  have d4 : w2.cell? ⟨w.heap.size + 1, 1, none⟩ = some (vI x.2) := by rw [cell_of B2]; rfl
  cases hr : rightB a.made v with
  | false =>
    have HX : Hd (storeX a v f x = (a, 1)) := by unfold Hd; simp [storeX, hr]
    go_wp2_with fail
    go_ret
    rw [HX.out]
    exact ⟨rfl, hM2, hF2.mono (fun _ _ h => h.elim)⟩
  | true =>
    go_wp2_with fail
    refine (right_any b a.made x w2 hM2.facts.2.1 hM2.lt).mono ?_
    rintro e w3 ⟨rfl, hw3⟩
    have hF23 : Fr (fun _ => False) w2 w3 := by rw [hw3]; exact Fr.alloc (Fr.refl _ w2) _
    clear hw3
    have C1 := (hF23.block _ (heap_lt B1) (fun h => h)).trans B1
    have C2 := (hF23.block _ (heap_lt B2) (fun h => h)).trans B2
    have hM3 := hM2.keep hF23
    have hF3 := hF2.trans hF23
    clear d1 d2 d3 d4 hM2 hF2 hF23 B1 B2
    have d1 : w3.cell? ⟨w.heap.size, 0, none⟩ = some (vI v.1) := by rw [cell_of C1]; rfl
    have d2 : w3.cell? ⟨w.heap.size, 1, none⟩ = some (vI v.2) := by rw [cell_of C1]; rfl
    cases hx : rightB a.made x with
    | false =>
      have HX : Hd (storeX a v f x = (a, 1)) := by unfold Hd; simp [storeX, hx]
      go_wp2_with fail
      go_ret
      rw [HX.out]
      exact ⟨rfl, hM3, hF3.mono (fun _ _ h => h.elim)⟩
    | true =>
      go_wp2_with fail
      refine (follow_any b g a v f w3 hM3 hr hm).mono ?_
      rintro e w4 ⟨rfl, hF34⟩
      have E2 := (hF34.block _ (heap_lt C2) (fun h => h)).trans C2
      have hM4 := hM3.keep hF34
      have hF4 := (hF3.trans hF34).mono (T := fun j => g.own j ≠ 0) (fun _ _ h => h.elim)
      clear d1 d2 hM3 hF3 hF34 C1 C2
      by_cases h2 : v.1 = 2
      · cases hc : a.cells v.2.toNat with
        | none =>
          have HX : Hd (storeX a v f x = (a, 32)) := by unfold Hd; simp [storeX, hr, hx, h2, hc]
          have hY : followX g a v f = (.slice none 0 0, 32) := by simp [followX, h2, hc]
          rw [hY]
          clear hY
          go_wp2_with fail
          go_ret
          rw [HX.out]
          exact ⟨rfl, hM4, hF4⟩
        | some l =>
          by_cases hf : 0 ≤ f ∧ f < l.length
          · obtain ⟨i, rfl⟩ := Int.eq_ofNat_of_zero_le hf.1
            have hi : i < l.length := by omega
            have HX : Hd (storeX a v i x = ({ a with cells := upd a.cells v.2.toNat (some (l.set i x)) }, 0)) := by unfold Hd; simp [storeX, hr, hx, h2, hc, hi]
            have hY : followX g a v i = (.slice (some ⟨g.blk v.2.toNat, 0, none⟩) l.length l.length, 0) := by simp [followX, h2, hc, hi]
            rw [hY]
            clear hY
            have HS : Hd _ := hM4.store hc hi x
            obtain ⟨k1, k2, k3, k4, k5⟩ := hM4.cell _ _ hc
            have m1 : w4.cell? ⟨g.blk v.2.toNat, i * 2, none⟩ = some (vI l[i].1) := by
              rw [cell_of k1, Nat.mul_comm]; simpa using flat_fst l i hi
            have m2 : w4.cell? ⟨g.blk v.2.toNat, i * 2 + 1, none⟩ = some (vI l[i].2) := by
              rw [cell_of k1, Nat.mul_comm]; simpa using flat_snd l i hi
            have z1 : w4.frozen? ⟨g.blk v.2.toNat, i * 2, none⟩ = false := frozen_of k1 _
            have z2 : w4.frozen? ⟨g.blk v.2.toNat, i * 2 + 1, none⟩ = false := frozen_of k1 _
            have d3 : w4.cell? ⟨w.heap.size + 1, 0, none⟩ = some (vI x.1) := by rw [cell_of E2]; rfl
            have d4 : w4.cell? ⟨w.heap.size + 1, 1, none⟩ = some (vI x.2) := by rw [cell_of E2]; rfl
            have hi0 : (0 : Int) ≤ i := by omega
            have hi1 : (i : Int) < l.length := by omega
            clear hM4 hc hr hx h2 k1 k2
            go_wp2_with fail
            go_ret
            rw [HX.out]
            exact ⟨rfl, HS.out.1, hF4.trans HS.out.2⟩
          · have HX : Hd (storeX a v f x = (a, 33)) := by unfold Hd; simp [storeX, hr, hx, h2, hc, hf]
            have hY : followX g a v f = (.slice none 0 0, 33) := by simp [followX, h2, hc, hf]
            rw [hY]
            clear hY
            go_wp2_with fail
            go_ret
            rw [HX.out]
            exact ⟨rfl, hM4, hF4⟩
      · have HX : Hd (storeX a v f x = (a, 31)) := by unfold Hd; simp [storeX, hr, hx, h2]
        have hY : followX g a v f = (.slice none 0 0, 31) := by simp [followX, h2]
        rw [hY]
        clear hY
        go_wp2_with fail
        go_ret
        rw [HX.out]
        exact ⟨rfl, hM4, hF4⟩

end Go.Proofs.Ytmdlebolmhnhaab

namespace Go.Proofs.Ytmdlebolmhnhaab
open Go.RowKit (wrap32 wrap64)
open Go.Maps (Keyed)
set_option linter.unusedVariables false
set_option linter.unusedSimpArgs false

theorem under22 : Try.prog.underlying 53 = some (.slice 28) := by kernel_rfl

theorem made_flat : ∀ n : Nat, n ≤ 16 → madeCells (Value.agg #[vI 0, vI 0]).cells (n * 2) = (flat (List.replicate n (0, 0))).toArray
  | 0, _ | 1, _ | 2, _ | 3, _ | 4, _ | 5, _ | 6, _ | 7, _ | 8, _ | 9, _ | 10, _ | 11, _ | 12, _ | 13, _ | 14, _ | 15, _ | 16, _ => by kernel_rfl
  | n + 17, h => absurd h (by omega)

/-- make([]api.Value, n). -/
theorem makeVals (n : Nat) (hn : n ≤ 16) (w : World) : (Instr.makeSlice 53 (vI n) (vI n)).run Try.prog w = .ok (.slice (some ⟨w.heap.size, 0, none⟩) n n) (w.alloc (.cells (flat (List.replicate n (0, 0))).toArray 28)) := by
  obtain ⟨i, hi, hz, hs, hb⟩ := info_parts (P := Try.prog) (e := 28) (z := .agg #[vI 0, vI 0]) (size := 2) (bytes := 16) (by kernel_rfl)
  have := run_makeSlice (P := Try.prog) w 53 28 i _ under22 hi hz .i64 .i64 n n (by omega) (Int.le_refl _) (by rw [hs]; simp; omega) (by rw [hb]; simp; omega) (by omega)
  rw [this, hs, Int.toNat_natCast, made_flat n hn]

def newX (n : Nat) : Abs := { gl := List.replicate n (0, 0), made := 0, cells := fun _ => none, frs := [], pss := [] }

/-- Where a new memory lies: the globals, the map, the memory, behind what was there. -/
def newG (s : Nat) : Gh := { own := fun k => if k = s then 2 else if k = s + 1 then 3 else if k = s + 2 then 1 else 0, gb := s, tb := s + 1, D := .map [], fr := .slice none 0 0, ps := .slice none 0 0, blk := fun _ => 0 }

theorem alloc3 (w : World) (o1 o2 o3 : Obj) : (((w.alloc o1).alloc o2).alloc o3).heap[w.heap.size]? = some o1 ∧ (((w.alloc o1).alloc o2).alloc o3).heap[w.heap.size + 1]? = some o2 ∧ (((w.alloc o1).alloc o2).alloc o3).heap[w.heap.size + 2]? = some o3 ∧ (((w.alloc o1).alloc o2).alloc o3).heap.size = w.heap.size + 3 ∧ Fr (fun _ => False) w (((w.alloc o1).alloc o2).alloc o3) := by
  obtain ⟨h1, h2, h3, h4⟩ := alloc2 w o1 o2
  refine ⟨?_, ?_, ?_, by simp, Fr.alloc h4 _⟩
  · rw [Go.RowKit.Below.heap_alloc _ _ _ (by omega)]; exact h1
  · rw [Go.RowKit.Below.heap_alloc _ _ _ (by omega)]; exact h2
  · have := heap_alloc_last ((w.alloc o1).alloc o2) o3
    rwa [h3] at this

theorem new_mem (w : World) (n : Nat) (hn : n ≤ 16) :
    Mem (((w.alloc (.cells (flat (List.replicate n (0, 0))).toArray 28)).alloc (.map #[] 0)).alloc (.cells (memC (newG w.heap.size) (newX n)) 60)) (w.heap.size + 2) (newG w.heap.size) (newX n) := by
  have hmap := World.ownsMap_made (w.alloc (.cells (flat (List.replicate n (0, 0))).toArray 28)) Try.prog 3 Rc
  obtain ⟨h1, h2, h3, h4, h5⟩ := alloc3 w (.cells (flat (List.replicate n (0, 0))).toArray 28) (.map #[] 0) (.cells (memC (newG w.heap.size) (newX n)) 60)
  refine { blk0 := h3, glob := h1, map := ?_, has := fun i => rfl, atk := (fun i l h => by cases h), cell := (fun i l h => by cases h), frs := World.ownsRow_nil _ _ _ _, pss := World.ownsRow_nil _ _ _ _, ob := ?_, og := ?_, ot := ?_, ofr := (fun j e => by cases e), ops := (fun j e => by cases e), olt := ?_, glen := by simpa [newX] using hn, pos := (fun x h => by cases h) }
  · have := hmap.alloc (.cells (memC (newG w.heap.size) (newX n)) 60)
    rw [show (w.alloc (.cells (flat (List.replicate n (0, 0))).toArray 28)).heap.size = w.heap.size + 1 by simp] at this
    exact this
  · simp [newG]
  · simp [newG]
  · simp [newG]
  · intro k hk
    rw [h4]
    simp only [newG] at hk
    split at hk
    · omega
    · split at hk
      · omega
      · split at hk
        · omega
        · exact absurd rfl hk

set_option maxRecDepth 100000 in
set_option maxHeartbeats 1000000 in
theorem new_any (n : Nat) (hn : n ≤ 16) (w : World) :
    Calls Try.prog 8 #[vI n] w fun e w' => ∃ b g, e = .returned (.pointer (some ⟨b, 0, none⟩)) ∧ Mem w' b g (newX n) ∧ Fr (fun _ => False) w w' ∧ (∀ k, g.own k ≠ 0 → w.heap.size ≤ k) := by
  have hmm := @Go.RowKit.run_makeMap Try.prog
  have hms := makeVals n hn
  have HM : Hd _ := new_mem w n hn
  go_enter Try.func8, Try.ntmps8
  go_wp2
  go_ret
  refine ⟨w.heap.size + 2, newG w.heap.size, rfl, ?_, Fr.alloc (Fr.alloc (Fr.alloc (Fr.refl _ w) _) _) _, ?_⟩
  · have := HM.out
    simpa [memC, newG, newX] using this
  · intro k hk
    simp only [newG] at hk
    split at hk
    · omega
    · split at hk
      · omega
      · split at hk
        · omega
        · exact absurd rfl hk
end Go.Proofs.Ytmdlebolmhnhaab
