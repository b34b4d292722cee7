import Derived.Test.YtihicdbplmdjiaaGreatQB1J
import Derived.Test.YtihicdbplmdjiaaGreatProg
import Derived.Conc.RwLib
import Derived.Conc.MuData
import Derived.KernelRfl
import Derived.Conc.MuLone
import Derived.WalkKit
import Derived.WalkLawsBesides
import Derived.StillTailTactics
import Derived.Deep.RegionHeld3
import Derived.BigQuiet
import Derived.RegionCalls
import Derived.WalkSpells
import Derived.Maps.OwnSet
import Derived.Maps.AppendAt
import Derived.Laws.LoneSync
import Derived.Shelf.SlSortCmp.WholeK
import Derived.Ground.SlsfProg
set_option linter.unusedVariables false
set_option linter.unusedSimpArgs false
namespace Go.Proofs.YtihicdbplmdjiaaGreat
open Go.RowKit (wrap32 wrap64)
/-- One call more in a set (a number beyond the last place says nothing). -/
def withS (s i : Nat) : Nat := s ||| 2 ^ i % 18446744073709551616
theorem withS_lt {s : Nat} (i : Nat) (hs : s < 18446744073709551616) : withS s i < 18446744073709551616 := Nat.or_lt_two_pow (n := 64) hs (Nat.mod_lt _ (by decide))
theorem withS_eq (s : Nat) {i : Nat} (hi : i < 64) : withS s i = s ||| 2 ^ i := by unfold withS; rw [Nat.mod_eq_of_lt (two_pow_lt hi)]
theorem withS_any (s i : Nat) (w : World) (hs : s < 18446744073709551616) : Calls Tryz.prog 58 #[vS s, vI i] w fun e w' => e = .returned (vS (withS s i)) ∧ w' = w := by
  have i0 : (0 : Int) ≤ i := by omega
  have e0 : IntKind.u64.wrap (2 ^ i) = ((2 ^ i % 18446744073709551616 : Nat) : Int) := by
    rw [IntKind.wrap_u64]
    have e : (2 : Int) ^ i = ((2 ^ i : Nat) : Int) := by simp
    rw [e]
    generalize 2 ^ i = p
    omega
  have e1 : bits .or .u64 (s : Int) (IntKind.u64.wrap (2 ^ i)) = ((withS s i : Nat) : Int) := by rw [e0]; exact bits_or_u64_nat _ _ hs (Nat.mod_lt _ (by decide))
  obtain ⟨d, hd⟩ : ∃ d, d = withS s i := ⟨_, rfl⟩
  rw [← hd] at e1 ⊢
  clear hd e0
  by_cases hi : i < 64
  · go_enter Tryz.func58, Tryz.ntmps58
    go_wp2_with fail
    go_ret
    exact ⟨rfl, rfl⟩
  · have hm : min i 64 = 64 := by omega
    have hz : 2 ^ i % 18446744073709551616 = 0 := by
      have : (18446744073709551616 : Nat) = 2 ^ 64 := by decide
      rw [this]
      exact Nat.mod_eq_zero_of_dvd (Nat.pow_dvd_pow 2 (by omega))
    have e2 : bits .or .u64 (s : Int) (IntKind.u64.wrap 18446744073709551616) = (d : Int) := by
      rw [← e1, IntKind.wrap_u64, IntKind.wrap_u64]
      have e : (2 : Int) ^ i = ((2 ^ i : Nat) : Int) := by simp
      have e3 : ((2 ^ i : Nat) : Int) % 18446744073709551616 = 0 := by
        generalize 2 ^ i = p at hz
        omega
      rw [e, e3]
      rfl
    go_enter Tryz.func58, Tryz.ntmps58
    go_wp2_with fail
    go_ret
    exact ⟨by simp [e2], rfl⟩
end Go.Proofs.YtihicdbplmdjiaaGreat
namespace Go.Proofs.YtihicdbplmdjiaaGreat.Pl
abbrev muLink : Go.Conc.Locks.MuLink := { lock := 69, unlock := 70, ilock := 79, iunlock := 80, lockSlow := 93, unlockSlow := 96, disable := 89, enable := 91, acquire := 92, relMerge := 94, cas32 := 90, add32 := 95, tMutex := 109, tIMutex := 107, tPMutex := 143, tPIMutex := 152, tPI32 := 154, tUP := 156, tNoCopy := 104, tU32 := 105 }
theorem muLib : Go.Conc.Locks.MuLib Tryz.prog muLink :=
  ⟨Tryz.func69, Tryz.func70, Tryz.func79, Tryz.func80, Tryz.func89, Tryz.func91, Tryz.func92, Tryz.func94, Tryz.func90, Tryz.func95, Tryz.underlying107, Tryz.runUnderlying107, Tryz.sizeOf107, Tryz.isAgg107, Tryz.zeroValue107, Tryz.underlying109, Tryz.runUnderlying109, Tryz.sizeOf109, Tryz.isAgg109, Tryz.zeroValue109, Tryz.underlying143, Tryz.runUnderlying143, Tryz.sizeOf143, Tryz.isAgg143, Tryz.zeroValue143, Tryz.underlying152, Tryz.runUnderlying152, Tryz.sizeOf152, Tryz.isAgg152, Tryz.zeroValue152, Tryz.underlying154, Tryz.runUnderlying154, Tryz.sizeOf154, Tryz.isAgg154, Tryz.zeroValue154, Tryz.underlying156, Tryz.runUnderlying156, Tryz.sizeOf156, Tryz.isAgg156, Tryz.zeroValue156, Tryz.underlying104, Tryz.runUnderlying104, Tryz.sizeOf104, Tryz.isAgg104, Tryz.zeroValue104, Tryz.underlying21, Tryz.runUnderlying21, Tryz.sizeOf21, Tryz.isAgg21, Tryz.zeroValue21, (by kernel_rfl)⟩
end Go.Proofs.YtihicdbplmdjiaaGreat.Pl
namespace Go.Proofs.YtihicdbplmdjiaaGreat.Pl
open Go.RowKit (wrap32 wrap64)
open Go.Maps (Keyed)
open Go.MuLone

/-- A proposition that the walk doesn't see. -/
def Hd (p : Prop) : Prop := p
theorem Hd.out {p : Prop} (h : Hd p) : p := h

abbrev vI (n : Int) : Value := .int .i64 n
abbrev In64 (k : Int) : Prop := -9223372036854775808 ≤ k ∧ k ≤ 9223372036854775807

/-- Nothing has turned but the blocks of S, and new ones. -/
structure Fr (S : Nat → Prop) (w w' : World) : Prop where
  os : w'.os = w.os
  tape : w'.tape = w.tape
  output : w'.output = w.output
  size : w.heap.size ≤ w'.heap.size
  block : ∀ k, k < w.heap.size → ¬ S k → w'.heap[k]? = w.heap[k]?

theorem Fr.refl (S : Nat → Prop) (w : World) : Fr S w w := ⟨rfl, rfl, rfl, Nat.le_refl _, fun _ _ _ => rfl⟩
theorem Fr.trans {S : Nat → Prop} {a b c : World} (h : Fr S a b) (k : Fr S b c) : Fr S a c :=
  ⟨k.os.trans h.os, k.tape.trans h.tape, k.output.trans h.output, Nat.le_trans h.size k.size, fun j hj hS => (k.block j (Nat.lt_of_lt_of_le hj h.size) hS).trans (h.block j hj hS)⟩
theorem Fr.mono {S T : Nat → Prop} {a b : World} (h : Fr S a b) (hs : ∀ k, k < a.heap.size → S k → T k) : Fr T a b :=
  ⟨h.os, h.tape, h.output, h.size, fun k hk hT => h.block k hk (fun hS => hT (hs k hk hS))⟩
theorem Fr.drew {S : Nat → Prop} {a w : World} (h : Fr S a w) : Fr S a w.drew := ⟨h.os, h.tape, h.output, h.size, h.block⟩
theorem Fr.alloc {S : Nat → Prop} {a w : World} (h : Fr S a w) (o : Obj) : Fr S a (w.alloc o) :=
  ⟨h.os, h.tape, h.output, by simp; have := h.size; omega, fun k hk hS => (Go.RowKit.Below.heap_alloc w o k (Nat.lt_of_lt_of_le hk h.size)).trans (h.block k hk hS)⟩
theorem Fr.setCell {S : Nat → Prop} {a w : World} (h : Fr S a w) (p : Addr) (v : Value) (hp : S p.block ∨ a.heap.size ≤ p.block) : Fr S a (w.setCell p v) :=
  ⟨h.os, h.tape, h.output, by simpa using h.size, fun k hk hS => by
    rw [Go.RowKit.Below.heap_setCell w p v k (by intro e; subst e; rcases hp with hp | hp; exact hS hp; omega)]; exact h.block k hk hS⟩
theorem Fr.cell {S : Nat → Prop} {w w' : World} (h : Fr S w w') {k o : Nat} (hk : k < w.heap.size) (hS : ¬ S k) : w'.cell? ⟨k, o, none⟩ = w.cell? ⟨k, o, none⟩ := World.cell?_of_block (h.block k hk hS)
theorem Fr.frozen {S : Nat → Prop} {w w' : World} (h : Fr S w w') {k o : Nat} (hk : k < w.heap.size) (hS : ¬ S k) : w'.frozen? ⟨k, o, none⟩ = w.frozen? ⟨k, o, none⟩ := by
  unfold World.frozen?; simp only [h.block k hk hS]
theorem grown_fr {w w' : World} {row : Option Nat} (h : w.grownBy w' row) : Fr (fun k => row = some k) w w' :=
  ⟨h.os, h.tape, h.output, h.size, fun k hk hS => h.block k hk (fun e => hS e.symm)⟩

theorem ownsRow_fr {S : Nat → Prop} {w w' : World} {B e size n : Nat} {v : Value} {xs : List Value} (h : w.ownsRow B e size v n xs) (f : Fr S w w') (hS : ∀ g, v.ownBlock = some g → ¬ S g) : w'.ownsRow B e size v n xs := by
  refine ⟨h.1, ?_⟩
  rcases h.2 with h2 | ⟨g, cap, cur, rfl, h3, h4, h5⟩
  · exact Or.inl h2
  · exact Or.inr ⟨g, cap, cur, rfl, h3, by rw [f.block g ((Array.getElem?_eq_some_iff.1 h4).1) (hS g rfl)]; exact h4, h5⟩

theorem ownsMap_fr {H : Type} {S : Nat → Prop} {w w' : World} {P : Program} {k : TypeId} {R : Value → Option (DataW H × List MemPlace)} {b n : Nat} {D : DataW H} (h : w.ownsMap P k R b n D) (f : Fr S w w') (hS : ¬ S b) : w'.ownsMap P k R b n D := by
  have hlt := h.lt
  obtain ⟨es, clock, hb, F, hs, hD⟩ := h
  exact ⟨es, clock, (f.block b hlt hS).trans hb, F, hs, hD⟩

theorem mixed : Tryz.prog.follows .mixedOrders = true := by kernel_rfl
theorem heap_alloc_last (w : World) (o : Obj) : (w.alloc o).heap[w.heap.size]? = some o := (MapKept.heap_alloc w o).1
theorem heap_lt {w : World} {k : Nat} {o : Obj} (h : w.heap[k]? = some o) : k < w.heap.size := (Array.getElem?_eq_some_iff.1 h).1
theorem cell_of {w : World} {k : Nat} {cs : Array Value} {t : TypeId} (h : w.heap[k]? = some (.cells cs t)) (o : Nat) : w.cell? ⟨k, o, none⟩ = cs[o]? := by
  unfold World.cell?; rw [h]; simp
theorem frozen_of {w : World} {k : Nat} {cs : Array Value} {t : TypeId} (h : w.heap[k]? = some (.cells cs t)) (o : Nat) : w.frozen? ⟨k, o, none⟩ = false := by
  unfold World.frozen?; rw [h]; simp
theorem set_of {w : World} {k : Nat} {cs : Array Value} {t : TypeId} (h : w.heap[k]? = some (.cells cs t)) (o : Nat) (v : Value) : (w.setCell ⟨k, o, none⟩ v).heap[k]? = some (.cells (cs.setIfInBounds o v) t) := by
  unfold World.setCell
  simp only [Array.getElem?_modify]
  rw [if_pos trivial, h]
  rfl

/-! ### what a table is -/

/-- A key's stripe. -/
def strp (k : Int) : Nat := (k % 8).toNat
theorem strp_lt (k : Int) : strp k < 8 := by unfold strp; omega

/-- Where it lies. -/
structure Gh where
  own : Nat → Nat
  mb : Nat → Nat
  D : Nat → DataW Unit
  eb : Int → Nat

/-- How an entry stands in the map: by its block. -/
def Rp : Value → Option (DataW Unit × List MemPlace)
  | .pointer (some ⟨e, 0, none⟩) => some (.lit (.int .i64 e), [])
  | .pointer none => some (.nil, [])
  | _ => none

theorem Rp_inv {v : Value} {e : Nat} {ps : List MemPlace} (h : Rp v = some (.lit (.int .i64 e), ps)) : v = .pointer (some ⟨e, 0, none⟩) := by
  unfold Rp at h
  split at h
  · simp at h
    obtain ⟨h1, -⟩ := h
    have e1 := Int.ofNat.inj h1
    subst e1
    rfl
  · simp at h
  · cases h
theorem Rp_nil {v : Value} {ps : List MemPlace} (h : Rp v = some (.nil, ps)) : v = .pointer none := by
  unfold Rp at h
  split at h
  · simp at h
  · rfl
  · cases h

abbrev Ab := Int → Option ByteArray

/-- A table at block b: what it tells is a. -/
structure Tb (w : World) (b : Nat) (g : Gh) (N : Nat) (a : Ab) : Prop where
  lock : ∀ i, i < 8 → w.cell? ⟨b, 3 * i, none⟩ = some (.int .i32 0)
  map : ∀ i, i < 8 → w.cell? ⟨b, 3 * i + 2, none⟩ = some (.map (some (g.mb i)))
  frz : ∀ o, w.frozen? ⟨b, o, none⟩ = false
  own1 : g.own b = 1
  own2 : ∀ i, i < 8 → g.own (g.mb i) = 2 + i
  ownE : ∀ k v, a k = some v → g.own (g.eb k) = 10
  inj : ∀ k k' v v', a k = some v → a k' = some v' → g.eb k = g.eb k' → k = k'
  lt : ∀ j, g.own j ≠ 0 → j < w.heap.size
  maps : ∀ i, i < 8 → w.ownsMap Tryz.prog 3 Rp (g.mb i) N (g.D i)
  wf : ∀ k v, a k = some v → In64 k
  has : ∀ i k, i < 8 → In64 k → Maps.has (g.D i) (.int .i64 k) = (decide (strp k = i) && (a k).isSome)
  atk : ∀ k v, a k = some v → (g.D (strp k)).atKey (.int .i64 k) .nil = .lit (.int .i64 (g.eb k))
  ent : ∀ k v, a k = some v → w.heap[g.eb k]? = some (.cells #[.string v, .int .u32 1] 135)

theorem Tb.blt {w : World} {b : Nat} {g : Gh} {N : Nat} {a : Ab} (h : Tb w b g N a) : b < w.heap.size := h.lt b (by rw [h.own1]; decide)

theorem Tb.fr {S : Nat → Prop} {w w' : World} {b : Nat} {g : Gh} {N : Nat} {a : Ab} (h : Tb w b g N a) (f : Fr S w w') (hS : ∀ j, g.own j ≠ 0 → ¬ S j) : Tb w' b g N a where
  lock := fun i hi => (f.cell h.blt (hS b (by rw [h.own1]; decide))).trans (h.lock i hi)
  map := fun i hi => (f.cell h.blt (hS b (by rw [h.own1]; decide))).trans (h.map i hi)
  frz := fun o => (f.frozen h.blt (hS b (by rw [h.own1]; decide))).trans (h.frz o)
  own1 := h.own1
  own2 := h.own2
  ownE := h.ownE
  inj := h.inj
  lt := fun j hj => Nat.lt_of_lt_of_le (h.lt j hj) f.size
  maps := fun i hi => ownsMap_fr (h.maps i hi) f (hS _ (by rw [h.own2 i hi]; omega))
  wf := h.wf
  has := h.has
  atk := h.atk
  ent := fun k v hk => (f.block _ (h.lt _ (by rw [h.ownE k v hk]; decide)) (hS _ (by rw [h.ownE k v hk]; decide))).trans (h.ent k v hk)
end Go.Proofs.YtihicdbplmdjiaaGreat.Pl
namespace Go.Proofs.YtihicdbplmdjiaaGreat.Pl
open Go.RowKit (wrap32 wrap64)
open Go.MuLone

theorem w64 {n : Int} (h1 : -9223372036854775808 ≤ n) (h2 : n ≤ 9223372036854775807) : wrap64 n = n := by unfold wrap64; omega
theorem i64w {n : Int} (h1 : -9223372036854775808 ≤ n) (h2 : n ≤ 9223372036854775807) : IntKind.i64.wrap n = n := by
  rw [IntKind.wrap_i64 n]; omega
theorem tmod_bound (k n : Int) (hn : 1 ≤ n) : -n < k.tmod n ∧ k.tmod n < n := by
  have h := Int.natAbs_tmod k n
  have h2 : k.natAbs % n.natAbs < n.natAbs := Nat.mod_lt _ (by omega)
  omega
theorem mod_eq (k n : Int) (hn : 1 ≤ n) : (k.tmod n + n).tmod n = k % n := by
  have hb := tmod_bound k n hn
  rw [Int.tmod_eq_emod_of_nonneg (by omega)]
  have h1 : k.tmod n = k - n * k.tdiv n := by have := Int.tmod_add_mul_tdiv k n; omega
  rw [Int.add_emod_right, h1, Int.sub_mul_emod_self_left]

set_option maxRecDepth 100000 in
set_option maxHeartbeats 1000000 in
theorem mod_any (k n : Int) (hn : 1 ≤ n) (hn2 : n ≤ 100000000) (w : World) : Calls Tryz.prog 27 #[vI k, vI n] w fun e w' => e = .returned (vI (k % n)) ∧ w' = w := by
  have hb := tmod_bound k n hn
  have h0 : ¬ n = 0 := by omega
  have hw : wrap64 (k.tmod n) = k.tmod n := w64 (by omega) (by omega)
  have hw2 : wrap64 (k.tmod n + n) = k.tmod n + n := w64 (by omega) (by omega)
  have hm := mod_eq k n hn
  have hn3 : 0 ≤ k % n := Int.emod_nonneg _ (by omega)
  have hn4 : k % n < n := Int.emod_lt_of_pos _ (by omega)
  have hw3 : wrap64 ((k.tmod n + n).tmod n) = k % n := by rw [hm]; exact w64 (by omega) (by omega)
  clear hn3 hn4 hb
  go_enter Tryz.func27, Tryz.ntmps27
  go_wp2_with fail
  go_ret
  exact ⟨rfl, rfl⟩

set_option maxRecDepth 100000 in
set_option maxHeartbeats 1000000 in
theorem stripeOf_any (k : Int) (w : World) : Calls Tryz.prog 61 #[vI k] w fun e w' => e = .returned (vI (strp k)) ∧ w' = w := by
  have hs : ((strp k : Nat) : Int) = k % 8 := by unfold strp; omega
  rw [hs]
  clear hs
  go_enter Tryz.func61, Tryz.ntmps61
  go_wp2_with (go_at_call 27; refine (mod_any k 8 (by decide) (by decide) _).mono ?_; rintro e w' ⟨rfl, rfl⟩)
  go_ret
  exact ⟨rfl, rfl⟩

set_option maxRecDepth 100000 in
set_option maxHeartbeats 1000000 in
/-- (*atomic.Bool).Load -/
theorem aload_any (b o : Nat) (x : Int) (w : World) (hc : w.cell? ⟨b, o, none⟩ = some (.int .u32 x)) :
    Calls Tryz.prog 72 #[.pointer (some ⟨b, o, none⟩)] w fun e w' => e = .returned (.bool (x != 0)) ∧ w' = w := by
  have hl := run_call_load (P := Tryz.prog) Tryz.func82 (by kernel_rfl) (by kernel_rfl) (by kernel_rfl) .u32 (by kernel_rfl) hc
  go_enter Tryz.func72, Tryz.ntmps72
  go_wp2_with fail
  go_ret
  exact ⟨rfl, rfl⟩

set_option maxRecDepth 100000 in
set_option maxHeartbeats 1000000 in
theorem b32_true (w : World) : Calls Tryz.prog 98 #[.bool true] w fun e w' => e = .returned (.int .u32 1) ∧ w' = w := by
  go_enter Tryz.func98, Tryz.ntmps98
  go_wp2_with fail
  go_ret
  exact ⟨rfl, rfl⟩

set_option maxRecDepth 100000 in
set_option maxHeartbeats 1000000 in
/-- (*atomic.Bool).Store(true) -/
theorem astore_any (b o : Nat) (u : Value) (w : World) (hc : w.cell? ⟨b, o, none⟩ = some u) (hz : w.frozen? ⟨b, o, none⟩ = false) :
    Calls Tryz.prog 81 #[.pointer (some ⟨b, o, none⟩), .bool true] w fun e w' => e = .returned (.tuple #[]) ∧ w' = w.drew.setCell ⟨b, o, none⟩ (.int .u32 1) := by
  have hst := run_call_store (P := Tryz.prog) Tryz.func97 (by kernel_rfl) (by kernel_rfl) (by kernel_rfl) (by kernel_rfl) (k := .u32) (y := 1) (w := w.drew) (a := ⟨b, o, none⟩) (u := u) (by simpa using hc) (by simpa using hz)
  go_enter Tryz.func81, Tryz.ntmps81
  go_wp2
  go_region_calls
  all_goals (go_end0; exact ⟨rfl, rfl⟩)

set_option maxRecDepth 100000 in
set_option maxHeartbeats 1000000 in
/-- fill of an entry that has its value: nothing. -/
theorem fill_no (e : Nat) (v x : ByteArray) (w : World) (h : w.heap[e]? = some (.cells #[.string v, .int .u32 1] 135)) :
    Calls Tryz.prog 71 #[.pointer (some ⟨e, 0, none⟩), .string x] w fun en w' => en = .returned (.bool false) ∧ w' = w := by
  have c1 : w.cell? ⟨e, 1, none⟩ = some (.int .u32 1) := by rw [cell_of h]; rfl
  go_enter Tryz.func71, Tryz.ntmps71
  go_wp2_with (go_at_call 72; refine (aload_any e 1 1 _ c1).mono ?_; rintro _ _ ⟨rfl, rfl⟩)
  go_ret
  exact ⟨rfl, rfl⟩

set_option maxRecDepth 100000 in
set_option maxHeartbeats 1000000 in
/-- fill of one that has none. -/
theorem fill_yes (e : Nat) (v x : ByteArray) (w : World) (h : w.heap[e]? = some (.cells #[.string v, .int .u32 0] 135)) :
    Calls Tryz.prog 71 #[.pointer (some ⟨e, 0, none⟩), .string x] w fun en w' => en = .returned (.bool true) ∧ w' = ((w.setCell ⟨e, 0, none⟩ (.string x)).drew).setCell ⟨e, 1, none⟩ (.int .u32 1) := by
  have c0 : w.cell? ⟨e, 0, none⟩ = some (.string v) := by rw [cell_of h]; rfl
  have c1 : w.cell? ⟨e, 1, none⟩ = some (.int .u32 0) := by rw [cell_of h]; rfl
  have z0 : w.frozen? ⟨e, 0, none⟩ = false := frozen_of h 0
  have h2 := set_of h 0 (.string x)
  have c2 : (w.setCell ⟨e, 0, none⟩ (.string x)).cell? ⟨e, 1, none⟩ = some (.int .u32 0) := by rw [cell_of h2]; rfl
  have z2 : (w.setCell ⟨e, 0, none⟩ (.string x)).frozen? ⟨e, 1, none⟩ = false := frozen_of h2 1
  clear h h2
  go_enter Tryz.func71, Tryz.ntmps71
  go_wp2_with (first
    | (go_at_call 72; refine (aload_any e 1 0 _ c1).mono ?_; rintro _ _ ⟨rfl, rfl⟩)
    | (go_at_call 81; refine (astore_any e 1 _ _ c2 z2).mono ?_; rintro _ _ ⟨rfl, rfl⟩))
  go_ret
  exact ⟨rfl, rfl⟩

set_option maxRecDepth 100000 in
set_option maxHeartbeats 1000000 in
theorem read_nil (w : World) : Calls Tryz.prog 64 #[.pointer none] w fun en w' => en = .returned (.tuple #[.string ⟨#[]⟩, .bool false]) ∧ w' = w := by
  go_enter Tryz.func64, Tryz.ntmps64
  go_wp2_with fail
  go_ret2
  exact ⟨rfl, rfl⟩

set_option maxRecDepth 100000 in
set_option maxHeartbeats 1000000 in
theorem read_yes (e : Nat) (v : ByteArray) (w : World) (h : w.heap[e]? = some (.cells #[.string v, .int .u32 1] 135)) :
    Calls Tryz.prog 64 #[.pointer (some ⟨e, 0, none⟩)] w fun en w' => en = .returned (.tuple #[.string v, .bool true]) ∧ w' = w := by
  have c0 : w.cell? ⟨e, 0, none⟩ = some (.string v) := by rw [cell_of h]; rfl
  have c1 : w.cell? ⟨e, 1, none⟩ = some (.int .u32 1) := by rw [cell_of h]; rfl
  clear h
  go_enter Tryz.func64, Tryz.ntmps64
  go_wp2_with (go_at_call 72; refine (aload_any e 1 1 _ c1).mono ?_; rintro _ _ ⟨rfl, rfl⟩)
  go_ret2
  exact ⟨rfl, rfl⟩

theorem under77 : Tryz.prog.underlying 110 = some (.map 3 126) := by kernel_rfl
theorem under3 : Tryz.prog.underlying 3 = some (.int .i64) := by kernel_rfl
theorem keyed3 : Go.Maps.Keyed Tryz.prog 3 := Maps.int_keyed under3
theorem zero69 (w : World) : (zeroValue 126).run Tryz.prog w = .ok (.pointer none) w := by kernel_rfl
theorem wf_k (k : Int) (h : In64 k) : (Lit.int .i64 k).wf = true := WalkArith.wf_i64 (by omega)

/-- What a stripe's map tells of a key. -/
def entP (g : Gh) (a : Ab) (k : Int) : Value := match a k with | some _ => .pointer (some ⟨g.eb k, 0, none⟩) | none => .pointer none

theorem Tb.look {w0 w : World} {b : Nat} {g : Gh} {N : Nat} {a : Ab} (h : Tb w0 b g N a) (k : Int) (hk : In64 k) (hm : w.ownsMap Tryz.prog 3 Rp (g.mb (strp k)) N (g.D (strp k))) :
    (Instr.lookup 110 (.map (some (g.mb (strp k)))) (vI k) false).run Tryz.prog w = .ok (entP g a k) w := by
  obtain ⟨v, ps, hrun, hv⟩ := hm.lookup keyed3 under77 (zero69 w) (zd := .nil) (zp := []) rfl (Maps.keyOf_int_mk under3 (wf_k k hk))
  rw [hrun]
  have hh := h.has (strp k) k (strp_lt k) hk
  unfold entP
  cases hc : a k with
  | none =>
    rw [hc] at hh
    have hn : Maps.has (g.D (strp k)) (.int .i64 k) = false := by rw [hh]; simp
    rw [Maps.atKey_of_not_has hn] at hv
    rw [Rp_nil hv]
  | some l =>
    rw [h.atk k l hc] at hv
    rw [Rp_inv hv]
end Go.Proofs.YtihicdbplmdjiaaGreat.Pl
namespace Go.Proofs.YtihicdbplmdjiaaGreat.Pl
open Go.Shelf
def sortL_ren : Go.Shelf.Ren := ⟨fun | 6 => 74 | 15 => 86 | 14 => 85 | 28 => 107 | 29 => 108 | 20 => 99 | 21 => 100 | 22 => 101 | 23 => 102 | 24 => 103 | 25 => 104 | 26 => 105 | 27 => 106 | 46 => 118 | 47 => 119 | 48 => 120 | 49 => 121 | 50 => 122 | 57 => 123 | n => n, fun | 22 => 137 | 24 => 141 | 25 => 142 | 3 => 3 | 39 => 150 | 0 => 0 | 53 => 105 | 55 => 91 | 4 => 4 | 46 => 163 | 45 => 162 | 50 => 83 | 5 => 5 | 9 => 9 | 66 => 174 | 70 => 178 | 76 => 180 | 77 => 181 | n => n, fun | n => n⟩
theorem sortL : Go.Proofs.SlLaysF0.n6 Tryz.prog sortL_ren := {
  mixed := by kernel_rfl
  f6 := ⟨Tryz.f74.name, by decide, Tryz.func74.trans (congrArg some (by kernel_rfl))⟩
  f14 := ⟨Tryz.f85.name, by decide, Tryz.func85.trans (congrArg some (by kernel_rfl))⟩
  f15 := Tryz.func86.trans (congrArg some (by kernel_rfl))
  f20 := ⟨Tryz.f99.name, by decide, Tryz.func99.trans (congrArg some (by kernel_rfl))⟩
  f21 := ⟨Tryz.f100.name, by decide, Tryz.func100.trans (congrArg some (by kernel_rfl))⟩
  f22 := ⟨Tryz.f101.name, by decide, Tryz.func101.trans (congrArg some (by kernel_rfl))⟩
  f23 := ⟨Tryz.f102.name, by decide, Tryz.func102.trans (congrArg some (by kernel_rfl))⟩
  f24 := ⟨Tryz.f103.name, by decide, Tryz.func103.trans (congrArg some (by kernel_rfl))⟩
  f25 := ⟨Tryz.f104.name, by decide, Tryz.func104.trans (congrArg some (by kernel_rfl))⟩
  f26 := ⟨Tryz.f105.name, by decide, Tryz.func105.trans (congrArg some (by kernel_rfl))⟩
  f27 := ⟨Tryz.f106.name, by decide, Tryz.func106.trans (congrArg some (by kernel_rfl))⟩
  f28 := Tryz.func107.trans (congrArg some (by kernel_rfl))
  f29 := Tryz.func108.trans (congrArg some (by kernel_rfl))
  f46 := ⟨Tryz.f118.name, by decide, Tryz.func118.trans (congrArg some (by kernel_rfl))⟩
  f47 := Tryz.func119.trans (congrArg some (by kernel_rfl))
  f48 := Tryz.func120.trans (congrArg some (by kernel_rfl))
  f49 := ⟨Tryz.f121.name, by decide, Tryz.func121.trans (congrArg some (by kernel_rfl))⟩
  f50 := ⟨Tryz.f122.name, by decide, Tryz.func122.trans (congrArg some (by kernel_rfl))⟩
  f57 := ⟨Tryz.f123.name, by decide, Tryz.func123.trans (congrArg some (by kernel_rfl))⟩
  t0 := Tryz.underlying0
  a0 := Tryz.isAgg0
  z0 := Tryz.sizeOf0
  v0 := Tryz.zeroValue0
  t3 := Tryz.underlying3
  a3 := Tryz.isAgg3
  z3 := Tryz.sizeOf3
  v3 := Tryz.zeroValue3
  t4 := Tryz.underlying4
  a4 := Tryz.isAgg4
  z4 := Tryz.sizeOf4
  v4 := Tryz.zeroValue4
  t5 := Tryz.underlying5
  a5 := Tryz.isAgg5
  z5 := Tryz.sizeOf5
  v5 := Tryz.zeroValue5
  t9 := Tryz.underlying9
  a9 := Tryz.isAgg9
  z9 := Tryz.sizeOf9
  v9 := Tryz.zeroValue9
  t22 := Tryz.underlying137
  a22 := Tryz.isAgg137
  z22 := Tryz.sizeOf137
  v22 := Tryz.zeroValue137
  t25 := Tryz.underlying142
  a25 := Tryz.isAgg142
  z25 := Tryz.sizeOf142
  v25 := Tryz.zeroValue142
  t39 := Tryz.underlying150
  a39 := Tryz.isAgg150
  z39 := Tryz.sizeOf150
  v39 := Tryz.zeroValue150
  t45 := Tryz.underlying162
  a45 := Tryz.isAgg162
  z45 := Tryz.sizeOf162
  v45 := Tryz.zeroValue162
  t46 := Tryz.underlying163
  a46 := Tryz.isAgg163
  z46 := Tryz.sizeOf163
  v46 := Tryz.zeroValue163
  t50 := Tryz.underlying83
  a50 := Tryz.isAgg83
  z50 := Tryz.sizeOf83
  v50 := Tryz.zeroValue83
  t53 := Tryz.underlying105
  a53 := Tryz.isAgg105
  z53 := Tryz.sizeOf105
  v53 := Tryz.zeroValue105
  t55 := Tryz.underlying91
  a55 := Tryz.isAgg91
  z55 := Tryz.sizeOf91
  v55 := Tryz.zeroValue91
  t66 := Tryz.underlying174
  a66 := Tryz.isAgg174
  z66 := Tryz.sizeOf174
  v66 := Tryz.zeroValue174
  t70 := Tryz.underlying178
  a70 := Tryz.isAgg178
  z70 := Tryz.sizeOf178
  v70 := Tryz.zeroValue178
  t76 := Tryz.underlying180
  a76 := Tryz.isAgg180
  z76 := Tryz.sizeOf180
  v76 := Tryz.zeroValue180
  t77 := Tryz.underlying181
  a77 := Tryz.isAgg181
  z77 := Tryz.sizeOf181
  v77 := Tryz.zeroValue181 }
end Go.Proofs.YtihicdbplmdjiaaGreat.Pl
