import Derived.Laws.Bits64b
import Derived.WalkKit
import Derived.Test.YtjmbfjaahadbhaaGreatDoorProg
import Derived.WalkLawsBesides
import Derived.StillTailTactics
import Derived.Deep.RegionWith
set_option linter.unusedVariables false
set_option linter.unusedSimpArgs false
namespace Go.Proofs.YtjmbfjaahadbhaaGreatDoor
open Go.RowKit (wrap32 wrap64)

/-- A proposition that the walk doesn't see. -/
def Hd (p : Prop) : Prop := p
theorem Hd.out {p : Prop} (h : Hd p) : p := h


/-- within: least <= n && n <= most. -/
theorem within_any (n l m : Int) (w : World) :
    Calls Tryz.prog 90 #[.int .i64 n, .int .i64 l, .int .i64 m] w fun e w' => e = .returned (.bool (decide (l ≤ n ∧ n ≤ m))) ∧ w' = w := by
  by_cases h : l ≤ n
  · have h' : decide (l ≤ n) = true := by simpa using h
    go_enter Tryz.func90, Tryz.ntmps90
    go_wp2
    go_ret
    exact ⟨by simp [h], rfl⟩
  · have h' : decide (l ≤ n) = false := by simpa using h
    go_enter Tryz.func90, Tryz.ntmps90
    go_wp2
    go_ret
    exact ⟨by simp, rfl⟩

theorem must_true (e : Int) (at' : Int) (w : World) :
    Calls Tryz.prog 89 #[.bool true, .int .i64 e, .int .i64 at'] w fun e w' => e = .returned (.tuple #[]) ∧ w' = w := by
  have hnot : ∀ (x : Bool) (w : World), (Op.unary .not (.bool x)).run Tryz.prog w = .ok (.bool (!x)) w := fun _ _ => rfl
  go_enter Tryz.func89, Tryz.ntmps89
  go_wp2

  go_end0
  exact ⟨rfl, rfl⟩

theorem must_false (e : Int) (at' : Int) (w : World) :
    Calls Tryz.prog 89 #[.bool false, .int .i64 e, .int .i64 at'] w fun e' w' => e' = .panicked [{ v := .iface 68 (.agg #[.int .i64 e, .int .i64 at']), recovered := false }] ∧ w' = w := by
  have hnot : ∀ (x : Bool) (w : World), (Op.unary .not (.bool x)).run Tryz.prog w = .ok (.bool (!x)) w := fun _ _ => rfl
  go_enter Tryz.func89, Tryz.ntmps89
  go_wp2

  exact ⟨rfl, rfl, rfl⟩


/-- The violation that is thrown. -/
abbrev viol (er at' : Int) : List PanicEntry := [{ v := .iface 68 (.agg #[.int .i64 er, .int .i64 at']), recovered := false }]

/-- A slice value that reads as these bytes. -/
def BytesIn (w : World) (v : Value) (bs : List UInt8) : Prop :=
  bs.length ≤ 1000000000000000 ∧ ∃ a c, v = .slice a bs.length c ∧ bs.length ≤ c ∧
    (bs ≠ [] → ∃ k o, a = some ⟨k, o, none⟩ ∧ k < w.heap.size ∧ ∀ i, (h : i < bs.length) → w.cell? ⟨k, o + i, none⟩ = some (.int .u8 bs[i].toNat))

end Go.Proofs.YtjmbfjaahadbhaaGreatDoor
