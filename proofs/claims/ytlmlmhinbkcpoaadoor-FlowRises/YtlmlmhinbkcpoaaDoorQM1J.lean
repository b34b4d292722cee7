import Derived.Laws.Bits64b
import Derived.WalkKit
import Derived.Test.YtlmlmhinbkcpoaaDoorProg
import Derived.WalkLawsBesides
import Derived.StillTailTactics
import Derived.Deep.RegionWith
namespace Go.Proofs.YtlmlmhinbkcpoaaDoor
open Go.RowKit (wrap32 wrap64)
set_option linter.unusedVariables false
set_option linter.unusedSimpArgs false

/-- A proposition that the walk doesn't see. -/
def Hd (p : Prop) : Prop := p
theorem Hd.out {p : Prop} (h : Hd p) : p := h

/-- What little-endian bytes come to. -/
def le : List UInt8 → Nat
  | [] => 0
  | b :: r => b.toNat + 256 * le r

theorem le_snoc (l : List UInt8) (b : UInt8) : le (l ++ [b]) = le l + 256 ^ l.length * b.toNat := by
  induction l with
  | nil => simp [le]
  | cons x r ih => simp [le, ih, Nat.pow_succ, Nat.mul_add, Nat.add_assoc]; rw [Nat.mul_comm (256 ^ r.length) 256, Nat.mul_assoc]

theorem le_lt (l : List UInt8) : le l < 256 ^ l.length := by
  induction l with
  | nil => simp [le]
  | cons x r ih =>
    have := x.toNat_lt
    simp only [le, List.length_cons, Nat.pow_succ]
    omega

theorem pow8 (k : Nat) : (2 : Nat) ^ (8 * k) = 256 ^ k := by rw [Nat.pow_mul]

theorem pow_le_8 (k : Nat) (h : k ≤ 7) : 256 ^ k ≤ 72057594037927936 := by
  have : 256 ^ k ≤ 256 ^ 7 := Nat.pow_le_pow_right (by omega) h
  omega

theorem or_step (v : Nat) (b : UInt8) (k : Nat) (hk : k < 8) (hv : v < 256 ^ k) :
    bits .or .u64 (v : Int) (IntKind.u64.wrap ((b.toNat : Int) * 2 ^ (8 * k))) = ((v + 256 ^ k * b.toNat : Nat) : Int) := by
  have hb := b.toNat_lt
  have hp := pow_le_8 k (by omega)
  have e : ((b.toNat : Int) * 2 ^ (8 * k)) = ((b.toNat * 256 ^ k : Nat) : Int) := by rw [← pow8]; simp
  have hlt : b.toNat * 256 ^ k < 18446744073709551616 := by
    have : b.toNat * 256 ^ k ≤ 255 * 72057594037927936 := Nat.mul_le_mul (by omega) hp
    omega
  have ew : IntKind.u64.wrap ((b.toNat * 256 ^ k : Nat) : Int) = ((b.toNat * 256 ^ k : Nat) : Int) := by
    rw [IntKind.wrap_u64]; omega
  rw [e, ew, bits_or_u64_nat _ _ (by omega) hlt]
  congr 1
  have := Nat.two_pow_add_eq_or_of_lt (i := 8 * k) (b := v) (by rw [pow8]; exact hv) b.toNat
  rw [pow8] at this
  rw [Nat.or_comm, Nat.mul_comm b.toNat, ← this, Nat.add_comm]

/-- So many bytes at a place. -/
def leAt (bs : List UInt8) (at' size : Nat) : Nat := le ((bs.drop at').take size)

theorem leAt_zero (bs : List UInt8) (at' : Nat) : leAt bs at' 0 = 0 := by simp [leAt, le]

theorem leAt_lt (bs : List UInt8) (at' size : Nat) : leAt bs at' size < 256 ^ size := by
  refine Nat.lt_of_lt_of_le (le_lt _) (Nat.pow_le_pow_right (by omega) (by simp; omega))

theorem leAt_succ (bs : List UInt8) (at' k : Nat) (h : at' + k < bs.length) : leAt bs at' (k + 1) = leAt bs at' k + 256 ^ k * (bs[at' + k]).toNat := by
  unfold leAt
  have h' : k < (bs.drop at').length := by simp; omega
  rw [List.take_succ_eq_append_getElem h', le_snoc]
  simp
  rw [Nat.min_eq_left (by omega)]

theorem int_step (bs : List UInt8) (at' k : Nat) (h : at' + k < bs.length) (hk : k < 8) :
    bits .or .u64 (leAt bs at' k : Nat) (IntKind.u64.wrap (((bs[at' + k]).toNat : Int) * 2 ^ (8 * k))) = (leAt bs at' (k + 1) : Nat) := by
  rw [or_step _ _ _ hk (leAt_lt _ _ _), leAt_succ _ _ _ h]
end Go.Proofs.YtlmlmhinbkcpoaaDoor

namespace Go.Proofs.YtlmlmhinbkcpoaaDoor
open Go.RowKit (wrap32 wrap64)
set_option linter.unusedVariables false
set_option linter.unusedSimpArgs false

/-- within: least <= n && n <= most. -/
theorem within_any (n l m : Int) (w : World) :
    Calls Tryd.prog 99 #[.int .i64 n, .int .i64 l, .int .i64 m] w fun e w' => e = .returned (.bool (decide (l ≤ n ∧ n ≤ m))) ∧ w' = w := by
  by_cases h : l ≤ n
  · have h' : decide (l ≤ n) = true := by simpa using h
    go_enter Tryd.func99, Tryd.ntmps99
    go_wp2
    go_ret
    exact ⟨by simp [h], rfl⟩
  · have h' : decide (l ≤ n) = false := by simpa using h
    go_enter Tryd.func99, Tryd.ntmps99
    go_wp2
    go_ret
    exact ⟨by simp, rfl⟩

theorem must_true (e : Int) (at' : Int) (w : World) :
    Calls Tryd.prog 98 #[.bool true, .int .i64 e, .int .i64 at'] w fun e w' => e = .returned (.tuple #[]) ∧ w' = w := by
  have hnot : ∀ (x : Bool) (w : World), (Op.unary .not (.bool x)).run Tryd.prog w = .ok (.bool (!x)) w := fun _ _ => rfl
  go_enter Tryd.func98, Tryd.ntmps98
  go_wp2

  go_end0
  exact ⟨rfl, rfl⟩

theorem must_false (e : Int) (at' : Int) (w : World) :
    Calls Tryd.prog 98 #[.bool false, .int .i64 e, .int .i64 at'] w fun e' w' => e' = .panicked [{ v := .iface 94 (.agg #[.int .i64 e, .int .i64 at']), recovered := false }] ∧ w' = w := by
  have hnot : ∀ (x : Bool) (w : World), (Op.unary .not (.bool x)).run Tryd.prog w = .ok (.bool (!x)) w := fun _ _ => rfl
  go_enter Tryd.func98, Tryd.ntmps98
  go_wp2

  exact ⟨rfl, rfl, rfl⟩


/-- The violation that is thrown. -/
abbrev viol (er at' : Int) : List PanicEntry := [{ v := .iface 94 (.agg #[.int .i64 er, .int .i64 at']), recovered := false }]

/-- A slice value that reads as these bytes. -/
def BytesIn (w : World) (v : Value) (bs : List UInt8) : Prop :=
  bs.length ≤ 1000000000000000 ∧ ∃ a c, v = .slice a bs.length c ∧ bs.length ≤ c ∧
    (bs ≠ [] → ∃ k o, a = some ⟨k, o, none⟩ ∧ k < w.heap.size ∧ ∀ i, (h : i < bs.length) → w.cell? ⟨k, o + i, none⟩ = some (.int .u8 bs[i].toNat))

end Go.Proofs.YtlmlmhinbkcpoaaDoor
