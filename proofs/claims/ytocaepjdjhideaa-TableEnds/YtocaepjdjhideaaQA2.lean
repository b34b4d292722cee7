import Derived.Test.YtocaepjdjhideaaQA1
namespace Go.Proofs.Ytocaepjdjhideaa
open Go.RowKit (wrap32 wrap64)
open Go.MuLone
set_option linter.unusedVariables false
set_option linter.unusedSimpArgs false

theorem w64 {n : Int} (h1 : -9223372036854775808 ≤ n) (h2 : n ≤ 9223372036854775807) : wrap64 n = n := by unfold wrap64; omega
theorem i64w {n : Int} (h1 : -9223372036854775808 ≤ n) (h2 : n ≤ 9223372036854775807) : IntKind.i64.wrap n = n := by
  rw [IntKind.wrap_i64 n]; omega
theorem tmod_bound (k n : Int) (hn : 1 ≤ n) : -n < k.tmod n ∧ k.tmod n < n := by
  have h := Int.natAbs_tmod k n
  have h2 : k.natAbs % n.natAbs < n.natAbs := Nat.mod_lt _ (by omega)
  omega
theorem mod_eq (k n : Int) (hn : 1 ≤ n) : (k.tmod n + n).tmod n = k % n := by
  have hb := tmod_bound k n hn
  rw [Int.tmod_eq_emod_of_nonneg (by omega)]
  have h1 : k.tmod n = k - n * k.tdiv n := by have := Int.tmod_add_mul_tdiv k n; omega
  rw [Int.add_emod_right, h1, Int.sub_mul_emod_self_left]

set_option maxRecDepth 100000 in
set_option maxHeartbeats 1000000 in
theorem mod_any (k n : Int) (hn : 1 ≤ n) (hn2 : n ≤ 100000000) (w : World) : Calls Try.prog 43 #[vI k, vI n] w fun e w' => e = .returned (vI (k % n)) ∧ w' = w := by
  have hb := tmod_bound k n hn
  have h0 : ¬ n = 0 := by omega
  have hw : wrap64 (k.tmod n) = k.tmod n := w64 (by omega) (by omega)
  have hw2 : wrap64 (k.tmod n + n) = k.tmod n + n := w64 (by omega) (by omega)
  have hm := mod_eq k n hn
  have hn3 : 0 ≤ k % n := Int.emod_nonneg _ (by omega)
  have hn4 : k % n < n := Int.emod_lt_of_pos _ (by omega)
  have hw3 : wrap64 ((k.tmod n + n).tmod n) = k % n := by rw [hm]; exact w64 (by omega) (by omega)
  clear hn3 hn4 hb
  go_enter Try.func43, Try.ntmps43
  go_wp2_with fail
  go_ret
  exact ⟨rfl, rfl⟩

set_option maxRecDepth 100000 in
set_option maxHeartbeats 1000000 in
theorem stripeOf_any (k : Int) (w : World) : Calls Try.prog 23 #[vI k] w fun e w' => e = .returned (vI (strp k)) ∧ w' = w := by
  have hs : ((strp k : Nat) : Int) = k % 8 := by unfold strp; omega
  rw [hs]
  clear hs
  go_enter Try.func23, Try.ntmps23
  go_wp2_with (go_at_call 43; refine (mod_any k 8 (by decide) (by decide) _).mono ?_; rintro e w' ⟨rfl, rfl⟩)
  go_ret
  exact ⟨rfl, rfl⟩

set_option maxRecDepth 100000 in
set_option maxHeartbeats 1000000 in
/-- (*atomic.Bool).Load -/
theorem aload_any (b o : Nat) (x : Int) (w : World) (hc : w.cell? ⟨b, o, none⟩ = some (.int .u32 x)) :
    Calls Try.prog 46 #[.pointer (some ⟨b, o, none⟩)] w fun e w' => e = .returned (.bool (x != 0)) ∧ w' = w := by
  have hl := run_call_load (P := Try.prog) Try.func64 (by kernel_rfl) (by kernel_rfl) (by kernel_rfl) .u32 (by kernel_rfl) hc
  go_enter Try.func46, Try.ntmps46
  go_wp2_with fail
  go_ret
  exact ⟨rfl, rfl⟩

set_option maxRecDepth 100000 in
set_option maxHeartbeats 1000000 in
theorem b32_true (w : World) : Calls Try.prog 95 #[.bool true] w fun e w' => e = .returned (.int .u32 1) ∧ w' = w := by
  go_enter Try.func95, Try.ntmps95
  go_wp2_with fail
  go_ret
  exact ⟨rfl, rfl⟩

set_option maxRecDepth 100000 in
set_option maxHeartbeats 1000000 in
/-- (*atomic.Bool).Store(true) -/
theorem astore_any (b o : Nat) (u : Value) (w : World) (hc : w.cell? ⟨b, o, none⟩ = some u) (hz : w.frozen? ⟨b, o, none⟩ = false) :
    Calls Try.prog 75 #[.pointer (some ⟨b, o, none⟩), .bool true] w fun e w' => e = .returned (.tuple #[]) ∧ w' = w.drew.setCell ⟨b, o, none⟩ (.int .u32 1) := by
  have hst := run_call_store (P := Try.prog) Try.func94 (by kernel_rfl) (by kernel_rfl) (by kernel_rfl) (by kernel_rfl) (k := .u32) (y := 1) (w := w.drew) (a := ⟨b, o, none⟩) (u := u) (by simpa using hc) (by simpa using hz)
  go_enter Try.func75, Try.ntmps75
  go_wp2
  go_region_calls
  all_goals (go_end0; exact ⟨rfl, rfl⟩)
end Go.Proofs.Ytocaepjdjhideaa
