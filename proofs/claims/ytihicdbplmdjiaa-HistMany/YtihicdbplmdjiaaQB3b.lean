import Derived.Test.YtihicdbplmdjiaaQB3
namespace Go.Proofs.Ytihicdbplmdjiaa
open Go.RowKit (wrap32 wrap64)
set_option linter.unusedVariables false
set_option linter.unusedSimpArgs false
/-- One call more in a set (a number beyond the last place says nothing). -/
def withS (s i : Nat) : Nat := s ||| 2 ^ i % 18446744073709551616
theorem withS_lt {s : Nat} (i : Nat) (hs : s < 18446744073709551616) : withS s i < 18446744073709551616 := Nat.or_lt_two_pow (n := 64) hs (Nat.mod_lt _ (by decide))
theorem withS_eq (s : Nat) {i : Nat} (hi : i < 64) : withS s i = s ||| 2 ^ i := by unfold withS; rw [Nat.mod_eq_of_lt (two_pow_lt hi)]
theorem withS_any (s i : Nat) (w : World) (hs : s < 18446744073709551616) : Calls Try.prog 58 #[vS s, vI i] w fun e w' => e = .returned (vS (withS s i)) ∧ w' = w := by
  have i0 : (0 : Int) ≤ i := by omega
  have e0 : IntKind.u64.wrap (2 ^ i) = ((2 ^ i % 18446744073709551616 : Nat) : Int) := by
    rw [IntKind.wrap_u64]
    have e : (2 : Int) ^ i = ((2 ^ i : Nat) : Int) := by simp
    rw [e]
    generalize 2 ^ i = p
    omega
  have e1 : bits .or .u64 (s : Int) (IntKind.u64.wrap (2 ^ i)) = ((withS s i : Nat) : Int) := by rw [e0]; exact bits_or_u64_nat _ _ hs (Nat.mod_lt _ (by decide))
  obtain ⟨d, hd⟩ : ∃ d, d = withS s i := ⟨_, rfl⟩
  rw [← hd] at e1 ⊢
  clear hd e0
  by_cases hi : i < 64
  · go_enter Try.func58, Try.ntmps58
    go_wp2_with fail
    go_ret
    exact ⟨rfl, rfl⟩
  · have hm : min i 64 = 64 := by omega
    have hz : 2 ^ i % 18446744073709551616 = 0 := by
      have : (18446744073709551616 : Nat) = 2 ^ 64 := by decide
      rw [this]
      exact Nat.mod_eq_zero_of_dvd (Nat.pow_dvd_pow 2 (by omega))
    have e2 : bits .or .u64 (s : Int) (IntKind.u64.wrap 18446744073709551616) = (d : Int) := by
      rw [← e1, IntKind.wrap_u64, IntKind.wrap_u64]
      have e : (2 : Int) ^ i = ((2 ^ i : Nat) : Int) := by simp
      have e3 : ((2 ^ i : Nat) : Int) % 18446744073709551616 = 0 := by
        generalize 2 ^ i = p at hz
        omega
      rw [e, e3]
      rfl
    go_enter Try.func58, Try.ntmps58
    go_wp2_with fail
    go_ret
    exact ⟨by simp [e2], rfl⟩
end Go.Proofs.Ytihicdbplmdjiaa
