import Derived.Test.YtmdlebolmhnhaabB4
import Derived.Shelf.Sort.Plain
import Derived.Shelf.Slices.In.SortNone
import Derived.Shelf.SlIterI.Sorted
import Derived.Test.YtmdlebolmhnhaabProg
namespace Go.Proofs.Ytmdlebolmhnhaab
open Go.RowKit (wrap32 wrap64)
open Go.Maps (Keyed)
set_option linter.unusedVariables false
set_option linter.unusedSimpArgs false

theorem IsCut.unique {num : Nat} {l : List Nat} {k k' : Nat} (h : IsCut num l k) (h' : IsCut num l k') : k = k' := by
  have aux : ∀ {k k' : Nat}, IsCut num l k → IsCut num l k' → ¬ k < k' := by
    intro k k' h h' hlt
    obtain ⟨h1, h2, h3⟩ := h
    obtain ⟨g1, g2, g3⟩ := h'
    have hk : k' - 1 < l.length := by omega
    have e := List.getElem?_eq_getElem hk
    have := h2 (k' - 1) _ (by omega) e
    have := g3 _ (by omega) e
    omega
  have := aux h h'
  have := aux h' h
  omega

theorem isCut_zero {num : Nat} {l : List Nat} (h : ∀ p ∈ l, num < p) : IsCut num l 0 := ⟨Nat.zero_le _, fun j p _ e => h p (List.mem_of_getElem? e), fun p h => by omega⟩
theorem isCut_all {num : Nat} {l : List Nat} (h : ∀ p ∈ l, p ≤ num) : IsCut num l l.length := ⟨Nat.le_refl _, (fun j p hj e => by rw [List.getElem?_eq_none hj] at e; cases e), fun p _ e => h p (List.mem_of_getElem? e)⟩

theorem PopX.is {a a' : Abs} (h : PopX a a') {l : List Nat} {num k : Nat} (hf : a.frs = l ++ [num]) (hk : IsCut num a.pss k) : a' = { a with cells := gone a.cells (a.pss.drop k), pss := a.pss.take k, frs := l } := by
  obtain ⟨num', k', e, hc, rfl⟩ := h
  rw [hf] at e
  rw [List.dropLast_concat] at e
  have e' : num = num' := by simpa using e
  subst e'
  rw [IsCut.unique hc hk, hf, List.dropLast_concat]

/-- All that is owned lies behind what was there. -/
def OwnNew (s : Nat) (g : Gh) : Prop := ∀ k, g.own k ≠ 0 → s ≤ k
theorem OwnNew.ext {s s' : Nat} {g g' : Gh} (h : OwnNew s g) (x : Ext s' g g') (hs : s ≤ s') : OwnNew s g' := fun k hk => by
  rcases Nat.lt_or_ge k s' with h1 | h1
  · rw [x k h1] at hk; exact h k hk
  · omega
theorem Fr.anew {a b c : World} {g : Gh} (h : Fr (fun _ => False) a b) (k : Fr (fun j => g.own j ≠ 0) b c) (o : OwnNew a.heap.size g) : Fr (fun _ => False) a c :=
  h.then k (fun j hj e => by have := o j e; omega)

/-- A memory's pointer. -/
abbrev ptr (b : Nat) : Value := .pointer (some ⟨b, 0, none⟩)

/-- What 'fixed' comes to, step by step. -/
def fx1 : Abs := pushX (newX 1)
def fx2 : Abs := { mkA fx1 1 with pss := fx1.pss ++ [fx1.made + 1] }
def fx3 : Abs := mkA fx2 2
def fx4 : Abs := { fx3 with cells := upd fx3.cells 2 (some [(0, 0), (2, 1)]) }
def fx5 : Abs := { fx4 with cells := gone fx4.cells [1], pss := [], frs := [] }

set_option maxRecDepth 100000 in
set_option maxHeartbeats 2000000 in
theorem fixed_any (w : World) : Calls Try.prog 4 #[] w fun e w' => e = .returned (.bool true) ∧ Fr (fun _ => False) w w' := by
  go_enter Try.func4, Try.ntmps4
  go_wp2_with fail
  refine (show Calls Try.prog 8 #[.int .i64 1] w _ from new_any 1 (by omega) w).mono ?_
  rintro e w1 ⟨b, g, rfl, hM, hF, hO⟩
  have hO1 : OwnNew w.heap.size g := hO
  have hs1 := hF.size
  go_wp2_with fail
  refine (push_any b g (newX 1) w1 hM (by simp [newX])).mono ?_
  rintro e w2 ⟨g2, rfl, hM2, hF2, hE2⟩
  have hG2 := hF.anew hF2 hO1
  have hO2 := hO1.ext hE2 hs1
  have hs2 := hG2.size
  clear hF hF2 hM hO hE2 hO1
  go_wp2_with fail
  refine (show Calls Try.prog 10 #[ptr b, .int .i64 1, .bool false] w2 _ from make_frame b g2 fx1 1 w2 hM2 (by omega) (by omega) (by simp [fx1, pushX]) (by simp [fx1, pushX, newX]) (by simp [fx1, pushX, newX]) (by simp [fx1, pushX, newX])).mono ?_
  rintro e w3 ⟨g3, he, hM3, hF3, hE3⟩
  obtain rfl : e = .returned (.tuple #[.int .i64 1, .int .i64 0]) := he
  have hM3 : Mem w3 b g3 fx2 := hM3
  have hG3 := hG2.anew hF3 hO2
  have hO3 := hO2.ext hE3 hs2
  have hs3 := hG3.size
  clear hG2 hF3 hM2 hE3 hO2
  go_wp2_with fail
  refine (show Calls Try.prog 10 #[ptr b, .int .i64 2, .bool true] w3 _ from make_heap b g3 fx2 2 w3 hM3 (by omega) (by omega) (by simp [fx2, mkA, fx1, pushX]) (by simp [fx2, mkA, fx1, pushX, newX]) (by simp [fx2, mkA, fx1, pushX, newX])).mono ?_
  rintro e w4 ⟨g4, he, hM4, hF4, hE4⟩
  obtain rfl : e = .returned (.tuple #[.int .i64 2, .int .i64 0]) := he
  have hM4 : Mem w4 b g4 fx3 := hM4
  have hG4 := hG3.anew hF4 hO3
  have hO4 := hO3.ext hE4 hs3
  have hs4 := hG4.size
  clear hG3 hF4 hM3 hE4 hO3
  go_wp2_with fail
  refine (show Calls Try.prog 11 #[ptr b, .agg #[.int .i64 2, .int .i64 2], .int .i64 1, .agg #[.int .i64 2, .int .i64 1]] w4 _ from store_any b g4 fx3 (2, 2) 1 (2, 1) w4 hM4 (by simp [fx3, fx2, mkA, fx1, pushX, newX])).mono ?_
  rintro e w5 ⟨he, hM5, hF5⟩
  have hst : storeX fx3 (2, 2) 1 (2, 1) = (fx4, 0) := by rfl
  rw [hst] at he hM5
  subst he
  have hG5 := hG4.anew hF5 hO4
  have hs5 := hG5.size
  clear hG4 hF5 hM4 hst
  go_wp2_with fail
  refine (show Calls Try.prog 12 #[ptr b, .agg #[.int .i64 2, .int .i64 2], .int .i64 1] w5 _ from load_any b g4 fx4 (2, 2) 1 w5 hM5 (by simp [fx4, fx3, fx2, mkA, fx1, pushX, newX])).mono ?_
  rintro e w6 ⟨he, hF6⟩
  have hld : loadX fx4 (2, 2) 1 = ((2, 1), 0) := by rfl
  rw [hld] at he
  subst he
  have hM6 := hM5.keep hF6
  have hG6 := hG5.trans hF6
  have hs6 := hG6.size
  clear hM5 hF6 hG5 hld
  go_wp2_with fail
  have V7 := heap_alloc_last w6 (.cells #[.int .i64 2, .int .i64 1] 28)
  have hF7 : Fr (fun _ => False) w6 (w6.alloc (.cells #[.int .i64 2, .int .i64 1] 28)) := Fr.alloc (Fr.refl _ w6) _
  have hv0 : g4.own w6.heap.size = 0 := by
    by_cases h0 : g4.own w6.heap.size = 0
    · exact h0
    · have := hM6.olt _ h0; omega
  generalize w6.alloc (.cells #[.int .i64 2, .int .i64 1] 28) = w7 at *
  have hM7 := hM6.keep hF7
  have hG7 := hG6.trans hF7
  have hs7 := hG7.size
  clear hM6 hF7 hG6
  refine (pop_any b g4 fx4 w7 hM7 (by simp [fx4, fx3, fx2, mkA, fx1, pushX]) (by simp [fx4, fx3, fx2, mkA, fx1, pushX, newX]) (by simp [fx4, fx3, fx2, mkA, fx1, pushX, newX]) (by simp [fx4, fx3, fx2, mkA, fx1, pushX, newX])).mono ?_
  rintro e w8 ⟨rfl, g8, a8, hP8, hM8, hF8, hE8⟩
  have ha8 : a8 = fx5 := hP8.is (l := []) (num := 0) (k := 0) rfl (isCut_zero (by simp [fx4, fx3, fx2, mkA, fx1, pushX, newX]))
  subst ha8
  have V8 := (hF8.block _ (heap_lt V7) (fun e => e hv0)).trans V7
  have hG8 := hG7.anew hF8 hO4
  have c0 : w8.cell? ⟨w6.heap.size, 0, none⟩ = some (.int .i64 2) := by rw [cell_of V8]; rfl
  have c1 : w8.cell? ⟨w6.heap.size, 1, none⟩ = some (.int .i64 1) := by rw [cell_of V8]; rfl
  have hs8 := hG8.size
  clear hP8 hM7 hF8 hG7 V7
  go_wp2_with fail
  refine (show Calls Try.prog 12 #[ptr b, .agg #[.int .i64 2, .int .i64 1], .int .i64 0] w8 _ from load_any b g8 fx5 (2, 1) 0 w8 hM8 (by simp [fx5, fx4, fx3, fx2, mkA, fx1, pushX, newX])).mono ?_
  rintro e w9 ⟨he, hF9⟩
  have hld : loadX fx5 (2, 1) 0 = ((0, 0), 32) := by rfl
  rw [hld] at he
  subst he
  have hG9 := hG8.trans hF9
  have V9 := (hF9.block _ (heap_lt V8) (fun e => e)).trans V8
  have hlt9 : w6.heap.size < w9.heap.size := heap_lt V9
  have d0 : w9.cell? ⟨w6.heap.size, 0, none⟩ = some (.int .i64 2) := by rw [cell_of V9]; rfl
  have d1 : w9.cell? ⟨w6.heap.size, 1, none⟩ = some (.int .i64 1) := by rw [cell_of V9]; rfl
  clear hM8 hF9 hG8 hld c0 c1 V8 V9
  go_wp2_with fail
  go_ret
  exact ⟨rfl, Fr.alloc hG9 _⟩
end Go.Proofs.Ytmdlebolmhnhaab

namespace Go.Proofs.Ytmdlebolmhnhaab
open Go.Shelf
set_option linter.unusedVariables false
set_option linter.unusedSimpArgs false
def keysRen : Go.Shelf.Ren := ⟨fun | 7 => 41 | 10 => 51 | n => n, fun | 23 => 58 | 26 => 3 | 3 => 53 | 28 => 74 | 0 => 0 | 27 => 73 | 33 => 65 | 4 => 4 | n => n, fun | n => n⟩
theorem keysL : Go.Proofs.SlLaysZI.n7 Try.prog keysRen := {
  mixed := by kernel_rfl
  f7 := ⟨Try.f41.name, by decide, Try.func41.trans (congrArg some (by kernel_rfl))⟩
  f10 := ⟨Try.f51.name, by decide, Try.func51.trans (congrArg some (by kernel_rfl))⟩
  t0 := Try.underlying0
  a0 := Try.isAgg0
  z0 := Try.sizeOf0
  v0 := Try.zeroValue0
  t4 := Try.underlying4
  a4 := Try.isAgg4
  z4 := Try.sizeOf4
  v4 := Try.zeroValue4
  t23 := Try.underlying58
  a23 := Try.isAgg58
  z23 := Try.sizeOf58
  v23 := Try.zeroValue58
  t26 := Try.underlying3
  a26 := Try.isAgg3
  z26 := Try.sizeOf3
  v26 := Try.zeroValue3
  t27 := Try.underlying73
  a27 := Try.isAgg73
  z27 := Try.sizeOf73
  v27 := Try.zeroValue73
  t28 := Try.underlying74
  a28 := Try.isAgg74
  z28 := Try.sizeOf74
  v28 := Try.zeroValue74
  t33 := Try.underlying65
  a33 := Try.isAgg65
  z33 := Try.sizeOf65
  v33 := Try.zeroValue65 }
def sortedRen : Go.Shelf.Ren := ⟨fun | 6 => 40 | 8 => 49 | 9 => 50 | 11 => 56 | 13 => 58 | 12 => 57 | 23 => 70 | 24 => 71 | 14 => 61 | 15 => 62 | 16 => 63 | 17 => 64 | 18 => 65 | 19 => 66 | 20 => 67 | 21 => 68 | 22 => 69 | 25 => 72 | 26 => 73 | 27 => 74 | 28 => 75 | 29 => 76 | 30 => 77 | 31 => 78 | n => n, fun | 26 => 3 | 28 => 74 | 24 => 29 | 0 => 0 | 3 => 3 | 37 => 85 | 48 => 97 | 50 => 99 | 4 => 4 | 40 => 89 | 39 => 88 | 45 => 94 | 5 => 5 | 9 => 9 | 51 => 100 | 55 => 104 | 57 => 106 | 58 => 107 | 33 => 65 | n => n, fun | n => n⟩
theorem sortedL : Go.Proofs.SlLaysZI.n6 Try.prog sortedRen := {
  mixed := by kernel_rfl
  f6 := ⟨Try.f40.name, by decide, Try.func40.trans (congrArg some (by kernel_rfl))⟩
  f8 := ⟨Try.f49.name, by decide, Try.func49.trans (congrArg some (by kernel_rfl))⟩
  f11 := ⟨Try.f56.name, by decide, Try.func56.trans (congrArg some (by kernel_rfl))⟩
  t0 := Try.underlying0
  a0 := Try.isAgg0
  z0 := Try.sizeOf0
  v0 := Try.zeroValue0
  t24 := Try.underlying29
  a24 := Try.isAgg29
  z24 := Try.sizeOf29
  v24 := Try.zeroValue29
  t26 := Try.underlying3
  a26 := Try.isAgg3
  z26 := Try.sizeOf3
  v26 := Try.zeroValue3
  t28 := Try.underlying74
  a28 := Try.isAgg74
  z28 := Try.sizeOf74
  v28 := Try.zeroValue74
  i26 := by kernel_rfl }
def sortRen : Go.Shelf.Ren := ⟨fun | 189 => 50 | 125 => 58 | 257 => 57 | 128 => 70 | 129 => 71 | 294 => 61 | 295 => 62 | 296 => 63 | 297 => 64 | 298 => 65 | 299 => 66 | 216 => 67 | 300 => 68 | 301 => 69 | 328 => 72 | 329 => 73 | 330 => 74 | 331 => 75 | 332 => 76 | 215 => 77 | 343 => 78 | n => n, fun | 28 => 29 | 3 => 3 | 46 => 85 | 0 => 0 | 51 => 97 | 53 => 99 | 4 => 4 | 183 => 89 | 182 => 88 | 131 => 94 | 5 => 5 | 9 => 9 | 218 => 100 | 222 => 104 | 228 => 106 | 229 => 107 | n => n, fun | n => n⟩
theorem sortL : Go.Proofs.Lays.n189 Try.prog sortRen := {
  mixed := by kernel_rfl
  f125 := Try.func58.trans (congrArg some (by kernel_rfl))
  f128 := Try.func70.trans (congrArg some (by kernel_rfl))
  f129 := Try.func71.trans (congrArg some (by kernel_rfl))
  f189 := Try.func50.trans (congrArg some (by kernel_rfl))
  f215 := Try.func77.trans (congrArg some (by kernel_rfl))
  f216 := Try.func67.trans (congrArg some (by kernel_rfl))
  f257 := Try.func57.trans (congrArg some (by kernel_rfl))
  f294 := Try.func61.trans (congrArg some (by kernel_rfl))
  f295 := Try.func62.trans (congrArg some (by kernel_rfl))
  f296 := Try.func63.trans (congrArg some (by kernel_rfl))
  f297 := Try.func64.trans (congrArg some (by kernel_rfl))
  f298 := Try.func65.trans (congrArg some (by kernel_rfl))
  f299 := Try.func66.trans (congrArg some (by kernel_rfl))
  f300 := Try.func68.trans (congrArg some (by kernel_rfl))
  f301 := Try.func69.trans (congrArg some (by kernel_rfl))
  f328 := Try.func72.trans (congrArg some (by kernel_rfl))
  f329 := Try.func73.trans (congrArg some (by kernel_rfl))
  f330 := Try.func74.trans (congrArg some (by kernel_rfl))
  f331 := Try.func75.trans (congrArg some (by kernel_rfl))
  f332 := Try.func76.trans (congrArg some (by kernel_rfl))
  f343 := Try.func78.trans (congrArg some (by kernel_rfl))
  t0 := Try.underlying0
  a0 := Try.isAgg0
  z0 := Try.sizeOf0
  v0 := Try.zeroValue0
  t3 := Try.underlying3
  a3 := Try.isAgg3
  z3 := Try.sizeOf3
  v3 := Try.zeroValue3
  t4 := Try.underlying4
  a4 := Try.isAgg4
  z4 := Try.sizeOf4
  v4 := Try.zeroValue4
  t5 := Try.underlying5
  a5 := Try.isAgg5
  z5 := Try.sizeOf5
  v5 := Try.zeroValue5
  t9 := Try.underlying9
  a9 := Try.isAgg9
  z9 := Try.sizeOf9
  v9 := Try.zeroValue9
  t28 := Try.underlying29
  a28 := Try.isAgg29
  z28 := Try.sizeOf29
  v28 := Try.zeroValue29
  t46 := Try.underlying85
  a46 := Try.isAgg85
  z46 := Try.sizeOf85
  v46 := Try.zeroValue85
  t51 := Try.underlying97
  a51 := Try.isAgg97
  z51 := Try.sizeOf97
  v51 := Try.zeroValue97
  t53 := Try.underlying99
  a53 := Try.isAgg99
  z53 := Try.sizeOf99
  v53 := Try.zeroValue99
  t131 := Try.underlying94
  a131 := Try.isAgg94
  z131 := Try.sizeOf94
  v131 := Try.zeroValue94
  t182 := Try.underlying88
  a182 := Try.isAgg88
  z182 := Try.sizeOf88
  v182 := Try.zeroValue88
  t183 := Try.underlying89
  a183 := Try.isAgg89
  z183 := Try.sizeOf89
  v183 := Try.zeroValue89
  t218 := Try.underlying100
  a218 := Try.isAgg100
  z218 := Try.sizeOf100
  v218 := Try.zeroValue100
  t222 := Try.underlying104
  a222 := Try.isAgg104
  z222 := Try.sizeOf104
  v222 := Try.zeroValue104
  t228 := Try.underlying106
  a228 := Try.isAgg106
  z228 := Try.sizeOf106
  v228 := Try.zeroValue106
  t229 := Try.underlying107
  a229 := Try.isAgg107
  z229 := Try.sizeOf107
  v229 := Try.zeroValue107 }
open Go.Sort Go.RowKit in
theorem sort_any (blk off cap : Nat) (zs : List Int) (w : World) (hH : Holds (Value.int .i64) w blk off zs.toArray) (hblk : blk < w.heap.size) (hsz : zs.length < 4611686018427387904) :
    Calls Try.prog 50 #[.slice (some ⟨blk, off, none⟩) zs.length cap] w fun e w' =>
      e = .returned (.tuple #[]) ∧ ∃ n os, w' = grow (putRow (Value.int .i64) (Sort.ahead w n) blk off (zs.mergeSort fun x y => decide (x ≤ y)).toArray) os := Any.slices_Sort_int sortL blk off cap zs w hH hblk hsz
open Go.RowKit Go.Sort in
/-- .. and plain. (LAID: no walk: one application.) -/
theorem sort_none (p : Option Addr) (cap : Nat) (w : World) :
    Calls Try.prog 50 #[.slice p 0 cap] w fun e w' => e = .returned (.tuple #[]) ∧ w' = w := Any.slices_Sort_int_none sortL p cap w
end Go.Proofs.Ytmdlebolmhnhaab

namespace Go.Proofs.Ytmdlebolmhnhaab
open Go.RowKit (wrap32 wrap64)
open Go.Maps (Keyed)
set_option linter.unusedVariables false
set_option linter.unusedSimpArgs false

theorem sortsIn (m : Nat) : AnyZI.SortsIn Try.prog sortedRen Fence.wide m :=
  ⟨fun blk off cap ss W hH hblk hsz => callsIn_wide.2 (sort_any blk off cap ss W hH hblk hsz), fun p cap W => callsIn_wide.2 (sort_none p cap W)⟩

/-- maps.Keys: a function over a new block that holds the map. -/
theorem keys_any (mb : Option Nat) (W : World) :
    Calls Try.prog 41 #[.map mb] W fun e w' => e = .returned (.func (.func 51) #[] #[.pointer (some ⟨W.heap.size, 0, none⟩)]) ∧ w' = W.alloc (.cells #[.map mb] 58) :=
  callsIn_wide.1 (AnyZI.keys_in keysL Fence.wide 5 trivial rfl mb W)

/-- slices.Sorted of it: the keys, rising. -/
theorem sorted_any {H : Type} (Bm tb nn : Nat) (D0 : DataW H) (R : Value → Option (DataW H × List MemPlace)) (w : World) (hc : w.cell? ⟨Bm, 0, none⟩ = some (.map (some tb))) (hB : Bm < w.heap.size) (hown : w.ownsMap Try.prog 3 R tb nn D0) (hmax : Maps.size D0 ≤ 10000000000000) :
    Calls Try.prog 40 #[.func (.func 51) #[] #[.pointer (some ⟨Bm, 0, none⟩)]] w fun e w' => ∃ (v : Value) (ss : List Int), e = .returned v ∧ ss.Perm (intKeys D0) ∧
      w'.ownsRow w.heap.size 3 1 v ss.length ((ss.mergeSort (fun x y => decide (x ≤ y))).map vI) ∧ (v = .slice none 0 0 ↔ ss = []) ∧ Go.RowKit.Below w.heap.size w w' := by
  have hseq : SeqGives Fence.wide 2 Try.prog 51 #[.pointer (some ⟨Bm, 0, none⟩)] encZ (fun ss => ss.Perm (intKeys D0)) (Maps.size D0) w :=
    AnyZI.keys_gives (ρ := keysRen) { keysL with } Fence.wide _ trivial rfl (by omega) Bm tb nn D0 w hB hc hown
  have cS := AnyZI.sorted_in sortedL Fence.wide 5 trivial trivial trivial trivial rfl (by omega) (sortsIn _) (enters_of Try.func50 (by kernel_rfl) rfl) 51 #[.pointer (some ⟨Bm, 0, none⟩)] trivial (enters_of Try.func51 (by kernel_rfl) rfl) _ _ (by unfold maxLen; omega) (by omega) w hseq
  exact callsIn_wide.1 cS

end Go.Proofs.Ytmdlebolmhnhaab
