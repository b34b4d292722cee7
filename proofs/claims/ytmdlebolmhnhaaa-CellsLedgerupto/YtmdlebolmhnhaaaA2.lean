import Derived.Test.YtmdlebolmhnhaaaA1
namespace Go.Proofs.Ytmdlebolmhnhaaa
open Go.RowKit (wrap32 wrap64)
open Go.Maps (Keyed)
set_option linter.unusedVariables false
set_option linter.unusedSimpArgs false

/-- Is a value right for a memory that has made so many cells? -/
def rightB (made : Nat) (v : Val) : Bool :=
  if v.1 = 0 then decide (v.2 = 0) else if v.1 = 1 then true else if v.1 = 2 then decide (1 ≤ v.2 ∧ v.2 ≤ made) else false

theorem eqb_true {a b : Int} (h : a = b) : (a == b) = true := by simpa using h
theorem eqb_false {a b : Int} (h : ¬ a = b) : (a == b) = false := by simpa using h

set_option maxHeartbeats 1000000 in
theorem right_any (b : Nat) (made : Nat) (v : Val) (w : World) (hc : w.cell? ⟨b, 1, none⟩ = some (vI made)) (hb : b < w.heap.size) :
    Calls Try.prog 26 #[.pointer (some ⟨b, 0, none⟩), vv v] w fun e w' => e = .returned (.bool (rightB made v)) ∧ w' = w.alloc (.cells #[vI v.1, vI v.2] 32) := by
  obtain ⟨k, n⟩ := v
  have hc' : (w.alloc (.cells #[vI k, vI n] 32)).cell? ⟨b, 1, none⟩ = some (vI made) := by
    rw [World.cell?_of_block (Go.RowKit.Below.heap_alloc w _ b hb)]; exact hc
  by_cases h0 : k = 0
  · subst h0
    go_enter Try.func26, Try.ntmps26
    go_wp2
    go_ret
    exact ⟨by simp only [rightB, if_true]; exact congrArg (fun x => Ending.returned (.bool x)) (Bool.eq_iff_iff.2 (by simp)), rfl⟩
  by_cases h1 : k = 1
  · subst h1
    go_enter Try.func26, Try.ntmps26
    go_wp2
    go_ret
    exact ⟨by simp [rightB], rfl⟩
  by_cases h2 : k = 2
  · subst h2
    go_enter Try.func26, Try.ntmps26
    go_wp2_with fail
    refine (wasMade_any b made n _ hc').mono ?_
    rintro e w' ⟨rfl, rfl⟩
    go_wp2_with fail
    go_ret
    exact ⟨by simp [rightB], rfl⟩
  · have b0 := eqb_false h0
    have b1 := eqb_false h1
    have b2 := eqb_false h2
    go_enter Try.func26, Try.ntmps26
    go_wp2
    go_ret
    exact ⟨by simp [rightB, h0, h1, h2], rfl⟩

theorem hasGlobal_any (b : Nat) (a : Option Addr) (len : Nat) (n : Int) (w : World) (hc : w.cell? ⟨b, 0, none⟩ = some (.slice a len len)) :
    Calls Try.prog 28 #[.pointer (some ⟨b, 0, none⟩), .int .i64 n] w fun e w' => e = .returned (.bool (decide (0 ≤ n ∧ n < len))) ∧ w' = w := by
  by_cases h : 0 ≤ n
  · have h' : decide (0 ≤ n) = true := by simpa using h
    go_enter Try.func28, Try.ntmps28
    go_wp2
    go_ret
    exact ⟨by simp [h], rfl⟩
  · have h' : decide (0 ≤ n) = false := by simpa using h
    go_enter Try.func28, Try.ntmps28
    go_wp2
    go_ret
    exact ⟨by simp [h], rfl⟩

end Go.Proofs.Ytmdlebolmhnhaaa
