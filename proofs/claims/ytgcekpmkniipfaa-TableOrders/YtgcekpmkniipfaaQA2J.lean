import Derived.Test.YtgcekpmkniipfaaQA1
namespace Go.Proofs.Ytgcekpmkniipfaa
open Go.RowKit (wrap32 wrap64)
open Go.MuLone
set_option linter.unusedVariables false
set_option linter.unusedSimpArgs false

theorem w64 {n : Int} (h1 : -9223372036854775808 ≤ n) (h2 : n ≤ 9223372036854775807) : wrap64 n = n := by unfold wrap64; omega
theorem i64w {n : Int} (h1 : -9223372036854775808 ≤ n) (h2 : n ≤ 9223372036854775807) : IntKind.i64.wrap n = n := by
  rw [IntKind.wrap_i64 n]; omega
theorem tmod_bound (k n : Int) (hn : 1 ≤ n) : -n < k.tmod n ∧ k.tmod n < n := by
  have h := Int.natAbs_tmod k n
  have h2 : k.natAbs % n.natAbs < n.natAbs := Nat.mod_lt _ (by omega)
  omega
theorem mod_eq (k n : Int) (hn : 1 ≤ n) : (k.tmod n + n).tmod n = k % n := by
  have hb := tmod_bound k n hn
  rw [Int.tmod_eq_emod_of_nonneg (by omega)]
  have h1 : k.tmod n = k - n * k.tdiv n := by have := Int.tmod_add_mul_tdiv k n; omega
  rw [Int.add_emod_right, h1, Int.sub_mul_emod_self_left]

set_option maxRecDepth 100000 in
set_option maxHeartbeats 1000000 in
theorem mod_any (k n : Int) (hn : 1 ≤ n) (hn2 : n ≤ 100000000) (w : World) : Calls Try.prog 43 #[vI k, vI n] w fun e w' => e = .returned (vI (k % n)) ∧ w' = w := by
  have hb := tmod_bound k n hn
  have h0 : ¬ n = 0 := by omega
  have hw : wrap64 (k.tmod n) = k.tmod n := w64 (by omega) (by omega)
  have hw2 : wrap64 (k.tmod n + n) = k.tmod n + n := w64 (by omega) (by omega)
  have hm := mod_eq k n hn
  have hn3 : 0 ≤ k % n := Int.emod_nonneg _ (by omega)
  have hn4 : k % n < n := Int.emod_lt_of_pos _ (by omega)
  have hw3 : wrap64 ((k.tmod n + n).tmod n) = k % n := by rw [hm]; exact w64 (by omega) (by omega)
  clear hn3 hn4 hb
  go_enter Try.func43, Try.ntmps43
  go_wp2_with fail
  go_ret
  exact ⟨rfl, rfl⟩

set_option maxRecDepth 100000 in
set_option maxHeartbeats 1000000 in
theorem stripeOf_any (k : Int) (w : World) : Calls Try.prog 23 #[vI k] w fun e w' => e = .returned (vI (strp k)) ∧ w' = w := by
  have hs : ((strp k : Nat) : Int) = k % 8 := by unfold strp; omega
  rw [hs]
  clear hs
  go_enter Try.func23, Try.ntmps23
  go_wp2_with (go_at_call 43; refine (mod_any k 8 (by decide) (by decide) _).mono ?_; rintro e w' ⟨rfl, rfl⟩)
  go_ret
  exact ⟨rfl, rfl⟩

set_option maxRecDepth 100000 in
set_option maxHeartbeats 1000000 in
/-- (*atomic.Bool).Load -/
theorem aload_any (b o : Nat) (x : Int) (w : World) (hc : w.cell? ⟨b, o, none⟩ = some (.int .u32 x)) :
    Calls Try.prog 46 #[.pointer (some ⟨b, o, none⟩)] w fun e w' => e = .returned (.bool (x != 0)) ∧ w' = w := by
  have hl := run_call_load (P := Try.prog) Try.func64 (by kernel_rfl) (by kernel_rfl) (by kernel_rfl) .u32 (by kernel_rfl) hc
  go_enter Try.func46, Try.ntmps46
  go_wp2_with fail
  go_ret
  exact ⟨rfl, rfl⟩

set_option maxRecDepth 100000 in
set_option maxHeartbeats 1000000 in
theorem b32_true (w : World) : Calls Try.prog 95 #[.bool true] w fun e w' => e = .returned (.int .u32 1) ∧ w' = w := by
  go_enter Try.func95, Try.ntmps95
  go_wp2_with fail
  go_ret
  exact ⟨rfl, rfl⟩

set_option maxRecDepth 100000 in
set_option maxHeartbeats 1000000 in
/-- (*atomic.Bool).Store(true) -/
theorem astore_any (b o : Nat) (u : Value) (w : World) (hc : w.cell? ⟨b, o, none⟩ = some u) (hz : w.frozen? ⟨b, o, none⟩ = false) :
    Calls Try.prog 75 #[.pointer (some ⟨b, o, none⟩), .bool true] w fun e w' => e = .returned (.tuple #[]) ∧ w' = w.drew.setCell ⟨b, o, none⟩ (.int .u32 1) := by
  have hst := run_call_store (P := Try.prog) Try.func94 (by kernel_rfl) (by kernel_rfl) (by kernel_rfl) (by kernel_rfl) (k := .u32) (y := 1) (w := w.drew) (a := ⟨b, o, none⟩) (u := u) (by simpa using hc) (by simpa using hz)
  go_enter Try.func75, Try.ntmps75
  go_wp2
  go_region_calls
  all_goals (go_end0; exact ⟨rfl, rfl⟩)
end Go.Proofs.Ytgcekpmkniipfaa

namespace Go.Proofs.Ytgcekpmkniipfaa
open Go.RowKit (wrap32 wrap64)
open Go.MuLone
set_option linter.unusedVariables false
set_option linter.unusedSimpArgs false

set_option maxRecDepth 100000 in
set_option maxHeartbeats 1000000 in
/-- fill of an entry that has its value: nothing. -/
theorem fill_no (e : Nat) (v x : ByteArray) (w : World) (h : w.heap[e]? = some (.cells #[.string v, .int .u32 1] 111)) :
    Calls Try.prog 52 #[.pointer (some ⟨e, 0, none⟩), .string x] w fun en w' => en = .returned (.bool false) ∧ w' = w := by
  have c1 : w.cell? ⟨e, 1, none⟩ = some (.int .u32 1) := by rw [cell_of h]; rfl
  go_enter Try.func52, Try.ntmps52
  go_wp2_with (go_at_call 46; refine (aload_any e 1 1 _ c1).mono ?_; rintro _ _ ⟨rfl, rfl⟩)
  go_ret
  exact ⟨rfl, rfl⟩

set_option maxRecDepth 100000 in
set_option maxHeartbeats 1000000 in
/-- fill of one that has none. -/
theorem fill_yes (e : Nat) (v x : ByteArray) (w : World) (h : w.heap[e]? = some (.cells #[.string v, .int .u32 0] 111)) :
    Calls Try.prog 52 #[.pointer (some ⟨e, 0, none⟩), .string x] w fun en w' => en = .returned (.bool true) ∧ w' = ((w.setCell ⟨e, 0, none⟩ (.string x)).drew).setCell ⟨e, 1, none⟩ (.int .u32 1) := by
  have c0 : w.cell? ⟨e, 0, none⟩ = some (.string v) := by rw [cell_of h]; rfl
  have c1 : w.cell? ⟨e, 1, none⟩ = some (.int .u32 0) := by rw [cell_of h]; rfl
  have z0 : w.frozen? ⟨e, 0, none⟩ = false := frozen_of h 0
  have h2 := set_of h 0 (.string x)
  have c2 : (w.setCell ⟨e, 0, none⟩ (.string x)).cell? ⟨e, 1, none⟩ = some (.int .u32 0) := by rw [cell_of h2]; rfl
  have z2 : (w.setCell ⟨e, 0, none⟩ (.string x)).frozen? ⟨e, 1, none⟩ = false := frozen_of h2 1
  clear h h2
  go_enter Try.func52, Try.ntmps52
  go_wp2_with (first
    | (go_at_call 46; refine (aload_any e 1 0 _ c1).mono ?_; rintro _ _ ⟨rfl, rfl⟩)
    | (go_at_call 75; refine (astore_any e 1 _ _ c2 z2).mono ?_; rintro _ _ ⟨rfl, rfl⟩))
  go_ret
  exact ⟨rfl, rfl⟩

set_option maxRecDepth 100000 in
set_option maxHeartbeats 1000000 in
theorem read_nil (w : World) : Calls Try.prog 25 #[.pointer none] w fun en w' => en = .returned (.tuple #[.string ⟨#[]⟩, .bool false]) ∧ w' = w := by
  go_enter Try.func25, Try.ntmps25
  go_wp2_with fail
  go_ret2
  exact ⟨rfl, rfl⟩

set_option maxRecDepth 100000 in
set_option maxHeartbeats 1000000 in
theorem read_yes (e : Nat) (v : ByteArray) (w : World) (h : w.heap[e]? = some (.cells #[.string v, .int .u32 1] 111)) :
    Calls Try.prog 25 #[.pointer (some ⟨e, 0, none⟩)] w fun en w' => en = .returned (.tuple #[.string v, .bool true]) ∧ w' = w := by
  have c0 : w.cell? ⟨e, 0, none⟩ = some (.string v) := by rw [cell_of h]; rfl
  have c1 : w.cell? ⟨e, 1, none⟩ = some (.int .u32 1) := by rw [cell_of h]; rfl
  clear h
  go_enter Try.func25, Try.ntmps25
  go_wp2_with (go_at_call 46; refine (aload_any e 1 1 _ c1).mono ?_; rintro _ _ ⟨rfl, rfl⟩)
  go_ret2
  exact ⟨rfl, rfl⟩

theorem under77 : Try.prog.underlying 77 = some (.map 3 69) := by kernel_rfl
theorem under3 : Try.prog.underlying 3 = some (.int .i64) := by kernel_rfl
theorem keyed3 : Go.Maps.Keyed Try.prog 3 := Maps.int_keyed under3
theorem zero69 (w : World) : (zeroValue 69).run Try.prog w = .ok (.pointer none) w := by kernel_rfl
theorem wf_k (k : Int) (h : In64 k) : (Lit.int .i64 k).wf = true := WalkArith.wf_i64 (by omega)

/-- What a stripe's map tells of a key. -/
def entP (g : Gh) (a : Ab) (k : Int) : Value := match a k with | some _ => .pointer (some ⟨g.eb k, 0, none⟩) | none => .pointer none

theorem Tb.look {w0 w : World} {b : Nat} {g : Gh} {N : Nat} {a : Ab} (h : Tb w0 b g N a) (k : Int) (hk : In64 k) (hm : w.ownsMap Try.prog 3 Rp (g.mb (strp k)) N (g.D (strp k))) :
    (Instr.lookup 77 (.map (some (g.mb (strp k)))) (vI k) false).run Try.prog w = .ok (entP g a k) w := by
  obtain ⟨v, ps, hrun, hv⟩ := hm.lookup keyed3 under77 (zero69 w) (zd := .nil) (zp := []) rfl (Maps.keyOf_int_mk under3 (wf_k k hk))
  rw [hrun]
  have hh := h.has (strp k) k (strp_lt k) hk
  unfold entP
  cases hc : a k with
  | none =>
    rw [hc] at hh
    have hn : Maps.has (g.D (strp k)) (.int .i64 k) = false := by rw [hh]; simp
    rw [Maps.atKey_of_not_has hn] at hv
    rw [Rp_nil hv]
  | some l =>
    rw [h.atk k l hc] at hv
    rw [Rp_inv hv]
end Go.Proofs.Ytgcekpmkniipfaa
