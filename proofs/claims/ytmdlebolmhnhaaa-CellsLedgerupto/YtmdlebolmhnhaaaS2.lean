import Derived.Test.YtmdlebolmhnhaaaB5
import Derived.Test.YtmdlebolmhnhaaaS1
namespace Go.Proofs.Ytmdlebolmhnhaaa
open Go.RowKit (wrap32 wrap64)
open Go.Maps (Keyed)
set_option linter.unusedVariables false
set_option linter.unusedSimpArgs false

theorem sortsIn (m : Nat) : AnyZI.SortsIn Try.prog sortedRen Fence.wide m :=
  ⟨fun blk off cap ss W hH hblk hsz => callsIn_wide.2 (sort_any blk off cap ss W hH hblk hsz), fun p cap W => callsIn_wide.2 (sort_none p cap W)⟩

/-- maps.Keys: a function over a new block that holds the map. -/
theorem keys_any (mb : Option Nat) (W : World) :
    Calls Try.prog 31 #[.map mb] W fun e w' => e = .returned (.func (.func 39) #[] #[.pointer (some ⟨W.heap.size, 0, none⟩)]) ∧ w' = W.alloc (.cells #[.map mb] 61) :=
  callsIn_wide.1 (AnyZI.keys_in keysL Fence.wide 5 trivial rfl mb W)

/-- slices.Sorted of it: the keys, rising. -/
theorem sorted_any {H : Type} (Bm tb nn : Nat) (D0 : DataW H) (R : Value → Option (DataW H × List MemPlace)) (w : World) (hc : w.cell? ⟨Bm, 0, none⟩ = some (.map (some tb))) (hB : Bm < w.heap.size) (hown : w.ownsMap Try.prog 3 R tb nn D0) (hmax : Maps.size D0 ≤ 10000000000000) :
    Calls Try.prog 30 #[.func (.func 39) #[] #[.pointer (some ⟨Bm, 0, none⟩)]] w fun e w' => ∃ (v : Value) (ss : List Int), e = .returned v ∧ ss.Perm (intKeys D0) ∧
      w'.ownsRow w.heap.size 3 1 v ss.length ((ss.mergeSort (fun x y => decide (x ≤ y))).map vI) ∧ (v = .slice none 0 0 ↔ ss = []) ∧ Go.RowKit.Below w.heap.size w w' := by
  have hseq : SeqGives Fence.wide 2 Try.prog 39 #[.pointer (some ⟨Bm, 0, none⟩)] encZ (fun ss => ss.Perm (intKeys D0)) (Maps.size D0) w :=
    AnyZI.keys_gives (ρ := keysRen) { keysL with } Fence.wide _ trivial rfl (by omega) Bm tb nn D0 w hB hc hown
  have cS := AnyZI.sorted_in sortedL Fence.wide 5 trivial trivial trivial trivial rfl (by omega) (sortsIn _) (enters_of Try.func38 (by kernel_rfl) rfl) 39 #[.pointer (some ⟨Bm, 0, none⟩)] trivial (enters_of Try.func39 (by kernel_rfl) rfl) _ _ (by unfold maxLen; omega) (by omega) w hseq
  exact callsIn_wide.1 cS

end Go.Proofs.Ytmdlebolmhnhaaa
