import Derived.Test.YtmdlebolmhnhaaaV4
import Derived.Test.YtmdlebolmhnhaaaS4
namespace Go.Proofs.Ytmdlebolmhnhaaa
open Go.RowKit Go.Shelf Go.Sort
open Go.Maps (Keyed)
set_option linter.unusedVariables false
set_option linter.unusedSimpArgs false

/-- Numbers that can be keys. -/
abbrev Num := { n : Nat // n ≤ 9000000000000000000 }
instance : Inhabited Num := ⟨⟨0, by omega⟩⟩
def encN (x : Num) : Value := vI x.1
theorem encN_one : OneCell encN := fun _ => rfl

set_option maxRecDepth 100000 in
set_option maxHeartbeats 1000000 in
theorem isThere_min (b tb nn : Nat) (D : DataW Unit) (i : Nat) (hi : i ≤ 9000000000000000000) (w : World) (hc : w.cell? ⟨b, 2, none⟩ = some (.map (some tb))) (hown : w.ownsMap Try.prog 3 Rc tb nn D) :
    Calls Try.prog 46 #[ptr b, vI i] w fun e w' => e = .returned (.bool (Maps.has D (.int .i64 i))) ∧ w' = w := by
  obtain ⟨v, ps, hrun, -⟩ := hown.look_ok keyed3 under61 (zero22 w) (zd := .nil) (zp := []) rfl (Maps.keyOf_int_mk under3 (wf_nat i hi))
  clear hown
  go_enter Try.func46, Try.ntmps46
  go_wp2_with fail
  go_ret
  exact ⟨rfl, rfl⟩

set_option maxRecDepth 100000 in
set_option maxHeartbeats 1000000 in
/-- The function that is handed to DeleteFunc. -/
theorem gone48 (b bx tb nn : Nat) (D : DataW Unit) (i : Nat) (hi : i ≤ 9000000000000000000) (w : World) (hx : w.cell? ⟨bx, 0, none⟩ = some (ptr b)) (hc : w.cell? ⟨b, 2, none⟩ = some (.map (some tb))) (hown : w.ownsMap Try.prog 3 Rc tb nn D) :
    Calls Try.prog 48 #[vI i, .pointer (some ⟨bx, 0, none⟩)] w fun e w' => e = .returned (.bool (!Maps.has D (.int .i64 i))) ∧ w' = w := by
  have HO : Hd _ := hown
  clear hown
  go_enter Try.func48, Try.ntmps48
  go_wp2_with fail
  refine (isThere_min b tb nn D i hi w hc HO.out).mono ?_
  rintro e w' ⟨rfl, rfl⟩
  go_wp2_with fail
  go_ret
  exact ⟨rfl, rfl⟩

/-- Only the row has turned. -/
theorem sortWorld_fr {α : Type} [Inhabited α] (enc : α → Value) (w : World) (blk off m : Nat) (dk : Array α) (os : Array Obj) : Fr (fun k => k = blk) w (sortWorld enc w blk off m dk os) := by
  refine ⟨rfl, rfl, rfl, by simp [sortWorld, grow, putRow, mapBlock, Sort.ahead], fun k hk hne => ?_⟩
  unfold sortWorld
  rw [heap_grow_old _ _ (by simpa [putRow, mapBlock, Sort.ahead] using hk)]
  simp [putRow, mapBlock, Sort.ahead, Array.getElem?_modify, Ne.symm hne]

end Go.Proofs.Ytmdlebolmhnhaaa
