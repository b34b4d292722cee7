import Derived.Test.YtihicdbplmdjiaaQB2
import Derived.Laws.Bits64b
import Derived.Laws.BitsAllLaws
namespace Go.Proofs.Ytihicdbplmdjiaa
open Go.RowKit (wrap32 wrap64)
set_option linter.unusedVariables false
set_option linter.unusedSimpArgs false

/-! ### sets of calls -/
abbrev vS (n : Nat) : Value := .int .u64 (n : Int)
theorem two_pow_lt {b : Nat} (hb : b < 64) : 2 ^ b < 18446744073709551616 := Nat.pow_lt_pow_right (a := 2) (by omega) hb
theorem wrap_pow {b : Nat} (hb : b < 64) : IntKind.u64.wrap (2 ^ b) = ((2 ^ b : Nat) : Int) := by
  have := two_pow_lt hb
  have e : (2 : Int) ^ b = ((2 ^ b : Nat) : Int) := by simp
  rw [IntKind.wrap_u64, e]
  generalize 2 ^ b = p at *
  omega
def dropS (s i : Nat) : Nat := s &&& (18446744073709551615 - 2 ^ i)
theorem with_any (s i : Nat) (w : World) (hs : s < 18446744073709551616) (hi : i < 64) : Calls Try.prog 58 #[vS s, vI i] w fun e w' => e = .returned (vS (s ||| 2 ^ i)) ∧ w' = w := by
  have i0 : (0 : Int) ≤ i := by omega
  have e1 : bits .or .u64 (s : Int) (IntKind.u64.wrap (2 ^ i)) = ((s ||| 2 ^ i : Nat) : Int) := by rw [wrap_pow hi]; exact bits_or_u64_nat _ _ hs (two_pow_lt hi)
  go_enter Try.func58, Try.ntmps58
  go_wp2_with fail
  go_ret
  exact ⟨by simp [e1], rfl⟩
theorem has_any (s i : Nat) (w : World) (hs : s < 18446744073709551616) (hi : i < 64) : Calls Try.prog 59 #[vS s, vI i] w fun e w' => e = .returned (.bool (s.testBit i)) ∧ w' = w := by
  have i0 : (0 : Int) ≤ i := by omega
  have e0 : (s : Int) / 2 ^ i = ((s / 2 ^ i : Nat) : Int) := by simp
  have e1 : bits .and .u64 ((s : Int) / 2 ^ i) 1 = ((s / 2 ^ i &&& 1 : Nat) : Int) := by
    rw [e0]
    exact bits_and_u64_nat _ 1 (Nat.lt_of_le_of_lt (Nat.div_le_self _ _) hs) (by decide)
  have h2 : s / 2 ^ i &&& 1 = s / 2 ^ i % 2 := Nat.and_one_is_mod _
  have e2 : (bits .and .u64 ((s : Int) / 2 ^ i) 1 == 1) = s.testBit i := by
    rw [e1, h2, Nat.testBit_eq_decide_div_mod_eq]
    generalize s / 2 ^ i % 2 = q
    by_cases hq : q = 1
    · subst hq; rfl
    · have h3 : ((q : Int) == 1) = false := by
        rw [beq_eq_false_iff_ne]; omega
      rw [h3]
      exact (decide_eq_false hq).symm
  obtain ⟨B, hB⟩ : ∃ B, B = s.testBit i := ⟨_, rfl⟩
  rw [← hB] at e2 ⊢
  clear hB h2 e1 e0
  go_enter Try.func59, Try.ntmps59
  go_wp2_with fail
  go_ret
  exact ⟨rfl, rfl⟩
theorem without_any (s i : Nat) (w : World) (hs : s < 18446744073709551616) (hi : i < 64) : Calls Try.prog 45 #[vS s, vI i] w fun e w' => e = .returned (vS (dropS s i)) ∧ w' = w := by
  have i0 : (0 : Int) ≤ i := by omega
  have e1 : bits .andNot .u64 (s : Int) (IntKind.u64.wrap (2 ^ i)) = ((dropS s i : Nat) : Int) := by rw [wrap_pow hi]; exact u64_andNot_nat _ _ hs (two_pow_lt hi)
  obtain ⟨d, hd⟩ : ∃ d, d = dropS s i := ⟨_, rfl⟩
  rw [← hd] at e1 ⊢
  clear hd
  go_enter Try.func45, Try.ntmps45
  go_wp2_with fail
  go_ret
  exact ⟨rfl, rfl⟩
theorem firsts_any (i : Nat) (w : World) (hi : i ≤ 64) : Calls Try.prog 43 #[vI i] w fun e w' => e = .returned (vS (2 ^ i - 1)) ∧ w' = w := by
  have i0 : (0 : Int) ≤ i := by omega
  have e1 : IntKind.u64.wrap (IntKind.u64.wrap (2 ^ i) - 1) = ((2 ^ i - 1 : Nat) : Int) := by
    rw [IntKind.wrap_u64, IntKind.wrap_u64]
    have e : (2 : Int) ^ i = ((2 ^ i : Nat) : Int) := by simp
    rw [e]
    rcases Nat.lt_or_ge i 64 with h | h
    · have h1 := two_pow_lt h
      have h2 := Nat.two_pow_pos i
      generalize 2 ^ i = p at *
      omega
    · have : i = 64 := by omega
      subst this
      decide
  obtain ⟨d, hd⟩ : ∃ d, d = 2 ^ i - 1 := ⟨_, rfl⟩
  rw [← hd] at e1 ⊢
  clear hd
  go_enter Try.func43, Try.ntmps43
  go_wp2_with fail
  go_ret
  exact ⟨rfl, rfl⟩
theorem firsts_bit (n j : Nat) : (2 ^ n - 1).testBit j = decide (j < n) := Nat.testBit_two_pow_sub_one n j
theorem firsts_lt {n : Nat} (h : n ≤ 64) : 2 ^ n - 1 < 18446744073709551616 := by
  have : 2 ^ n ≤ 2 ^ 64 := Nat.pow_le_pow_right (by omega) h
  have h2 := Nat.two_pow_pos n
  have e : (2 : Nat) ^ 64 = 18446744073709551616 := by decide
  omega
theorem dropS_lt {s : Nat} (i : Nat) (hs : s < 18446744073709551616) : dropS s i < 18446744073709551616 := Nat.lt_of_le_of_lt Nat.and_le_left hs
theorem dropS_bit {s i : Nat} (j : Nat) (hs : s < 18446744073709551616) (hi : i < 64) : (dropS s i).testBit j = (s.testBit j && !decide (j = i)) := by
  unfold dropS
  rw [Nat.testBit_and]
  rcases Nat.lt_or_ge j 64 with h | h
  · have e : 18446744073709551615 - 2 ^ i = 2 ^ 64 - (2 ^ i + 1) := by omega
    rw [e, Nat.testBit_two_pow_sub_succ (two_pow_lt hi), Nat.testBit_two_pow]
    simp [h, eq_comm]
  · have : s.testBit j = false := Nat.testBit_lt_two_pow (Nat.lt_of_lt_of_le (show s < 2 ^ 64 from hs) (Nat.pow_le_pow_right (by omega) h))
    rw [this]; rfl
theorem with_bit (s i j : Nat) : (s ||| 2 ^ i).testBit j = (s.testBit j || decide (j = i)) := by
  rw [Nat.testBit_or, Nat.testBit_two_pow]
  simp [eq_comm]
theorem with_lt {s i : Nat} (hs : s < 18446744073709551616) (hi : i < 64) : s ||| 2 ^ i < 18446744073709551616 := Nat.or_lt_two_pow (n := 64) hs (two_pow_lt hi)
end Go.Proofs.Ytihicdbplmdjiaa
