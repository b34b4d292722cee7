import Derived.Test.YtocaepjdjhideaaProg
import Derived.Conc.RwLib
import Derived.Conc.MuData
import Derived.KernelRfl
import Derived.Conc.MuLone
import Derived.WalkKit
import Derived.WalkLawsBesides
import Derived.StillTailTactics
import Derived.Deep.RegionHeld3
import Derived.BigQuiet
import Derived.RegionCalls
import Derived.WalkSpells
import Derived.Maps.OwnSet
import Derived.Maps.AppendAt
import Derived.Laws.LoneSync
namespace Go.Proofs.Ytocaepjdjhideaa
set_option linter.unusedVariables false
set_option linter.unusedSimpArgs false
abbrev muLink : Go.Conc.Locks.MuLink := { lock := 44, unlock := 45, ilock := 62, iunlock := 63, lockSlow := 85, unlockSlow := 88, disable := 81, enable := 83, acquire := 84, relMerge := 86, cas32 := 82, add32 := 87, tMutex := 76, tIMutex := 74, tPMutex := 129, tPIMutex := 148, tPI32 := 150, tUP := 152, tNoCopy := 71, tU32 := 72 }
theorem muLib : Go.Conc.Locks.MuLib Try.prog muLink :=
  ⟨Try.func44, Try.func45, Try.func62, Try.func63, Try.func81, Try.func83, Try.func84, Try.func86, Try.func82, Try.func87, Try.underlying74, Try.runUnderlying74, Try.sizeOf74, Try.isAgg74, Try.zeroValue74, Try.underlying76, Try.runUnderlying76, Try.sizeOf76, Try.isAgg76, Try.zeroValue76, Try.underlying129, Try.runUnderlying129, Try.sizeOf129, Try.isAgg129, Try.zeroValue129, Try.underlying148, Try.runUnderlying148, Try.sizeOf148, Try.isAgg148, Try.zeroValue148, Try.underlying150, Try.runUnderlying150, Try.sizeOf150, Try.isAgg150, Try.zeroValue150, Try.underlying152, Try.runUnderlying152, Try.sizeOf152, Try.isAgg152, Try.zeroValue152, Try.underlying71, Try.runUnderlying71, Try.sizeOf71, Try.isAgg71, Try.zeroValue71, Try.underlying21, Try.runUnderlying21, Try.sizeOf21, Try.isAgg21, Try.zeroValue21, (by kernel_rfl)⟩
end Go.Proofs.Ytocaepjdjhideaa

namespace Go.Proofs.Ytocaepjdjhideaa
open Go.RowKit (wrap32 wrap64)
open Go.Maps (Keyed)
open Go.MuLone
set_option linter.unusedVariables false
set_option linter.unusedSimpArgs false

/-- A proposition that the walk doesn't see. -/
def Hd (p : Prop) : Prop := p
theorem Hd.out {p : Prop} (h : Hd p) : p := h

abbrev vI (n : Int) : Value := .int .i64 n
abbrev In64 (k : Int) : Prop := -9223372036854775808 ≤ k ∧ k ≤ 9223372036854775807

/-- Nothing has turned but the blocks of S, and new ones. -/
structure Fr (S : Nat → Prop) (w w' : World) : Prop where
  os : w'.os = w.os
  tape : w'.tape = w.tape
  output : w'.output = w.output
  size : w.heap.size ≤ w'.heap.size
  block : ∀ k, k < w.heap.size → ¬ S k → w'.heap[k]? = w.heap[k]?

theorem Fr.refl (S : Nat → Prop) (w : World) : Fr S w w := ⟨rfl, rfl, rfl, Nat.le_refl _, fun _ _ _ => rfl⟩
theorem Fr.trans {S : Nat → Prop} {a b c : World} (h : Fr S a b) (k : Fr S b c) : Fr S a c :=
  ⟨k.os.trans h.os, k.tape.trans h.tape, k.output.trans h.output, Nat.le_trans h.size k.size, fun j hj hS => (k.block j (Nat.lt_of_lt_of_le hj h.size) hS).trans (h.block j hj hS)⟩
theorem Fr.mono {S T : Nat → Prop} {a b : World} (h : Fr S a b) (hs : ∀ k, k < a.heap.size → S k → T k) : Fr T a b :=
  ⟨h.os, h.tape, h.output, h.size, fun k hk hT => h.block k hk (fun hS => hT (hs k hk hS))⟩
theorem Fr.drew {S : Nat → Prop} {a w : World} (h : Fr S a w) : Fr S a w.drew := ⟨h.os, h.tape, h.output, h.size, h.block⟩
theorem Fr.alloc {S : Nat → Prop} {a w : World} (h : Fr S a w) (o : Obj) : Fr S a (w.alloc o) :=
  ⟨h.os, h.tape, h.output, by simp; have := h.size; omega, fun k hk hS => (Go.RowKit.Below.heap_alloc w o k (Nat.lt_of_lt_of_le hk h.size)).trans (h.block k hk hS)⟩
theorem Fr.setCell {S : Nat → Prop} {a w : World} (h : Fr S a w) (p : Addr) (v : Value) (hp : S p.block ∨ a.heap.size ≤ p.block) : Fr S a (w.setCell p v) :=
  ⟨h.os, h.tape, h.output, by simpa using h.size, fun k hk hS => by
    rw [Go.RowKit.Below.heap_setCell w p v k (by intro e; subst e; rcases hp with hp | hp; exact hS hp; omega)]; exact h.block k hk hS⟩
theorem Fr.cell {S : Nat → Prop} {w w' : World} (h : Fr S w w') {k o : Nat} (hk : k < w.heap.size) (hS : ¬ S k) : w'.cell? ⟨k, o, none⟩ = w.cell? ⟨k, o, none⟩ := World.cell?_of_block (h.block k hk hS)
theorem Fr.frozen {S : Nat → Prop} {w w' : World} (h : Fr S w w') {k o : Nat} (hk : k < w.heap.size) (hS : ¬ S k) : w'.frozen? ⟨k, o, none⟩ = w.frozen? ⟨k, o, none⟩ := by
  unfold World.frozen?; simp only [h.block k hk hS]
theorem grown_fr {w w' : World} {row : Option Nat} (h : w.grownBy w' row) : Fr (fun k => row = some k) w w' :=
  ⟨h.os, h.tape, h.output, h.size, fun k hk hS => h.block k hk (fun e => hS e.symm)⟩

theorem ownsRow_fr {S : Nat → Prop} {w w' : World} {B e size n : Nat} {v : Value} {xs : List Value} (h : w.ownsRow B e size v n xs) (f : Fr S w w') (hS : ∀ g, v.ownBlock = some g → ¬ S g) : w'.ownsRow B e size v n xs := by
  refine ⟨h.1, ?_⟩
  rcases h.2 with h2 | ⟨g, cap, cur, rfl, h3, h4, h5⟩
  · exact Or.inl h2
  · exact Or.inr ⟨g, cap, cur, rfl, h3, by rw [f.block g ((Array.getElem?_eq_some_iff.1 h4).1) (hS g rfl)]; exact h4, h5⟩

theorem ownsMap_fr {H : Type} {S : Nat → Prop} {w w' : World} {P : Program} {k : TypeId} {R : Value → Option (DataW H × List MemPlace)} {b n : Nat} {D : DataW H} (h : w.ownsMap P k R b n D) (f : Fr S w w') (hS : ¬ S b) : w'.ownsMap P k R b n D := by
  have hlt := h.lt
  obtain ⟨es, clock, hb, F, hs, hD⟩ := h
  exact ⟨es, clock, (f.block b hlt hS).trans hb, F, hs, hD⟩

theorem mixed : Try.prog.follows .mixedOrders = true := by kernel_rfl
theorem heap_alloc_last (w : World) (o : Obj) : (w.alloc o).heap[w.heap.size]? = some o := (MapKept.heap_alloc w o).1
theorem heap_lt {w : World} {k : Nat} {o : Obj} (h : w.heap[k]? = some o) : k < w.heap.size := (Array.getElem?_eq_some_iff.1 h).1
theorem cell_of {w : World} {k : Nat} {cs : Array Value} {t : TypeId} (h : w.heap[k]? = some (.cells cs t)) (o : Nat) : w.cell? ⟨k, o, none⟩ = cs[o]? := by
  unfold World.cell?; rw [h]; simp
theorem frozen_of {w : World} {k : Nat} {cs : Array Value} {t : TypeId} (h : w.heap[k]? = some (.cells cs t)) (o : Nat) : w.frozen? ⟨k, o, none⟩ = false := by
  unfold World.frozen?; rw [h]; simp
theorem set_of {w : World} {k : Nat} {cs : Array Value} {t : TypeId} (h : w.heap[k]? = some (.cells cs t)) (o : Nat) (v : Value) : (w.setCell ⟨k, o, none⟩ v).heap[k]? = some (.cells (cs.setIfInBounds o v) t) := by
  unfold World.setCell
  simp only [Array.getElem?_modify]
  rw [if_pos trivial, h]
  rfl

/-! ### what a table is -/

/-- A key's stripe. -/
def strp (k : Int) : Nat := (k % 8).toNat
theorem strp_lt (k : Int) : strp k < 8 := by unfold strp; omega

/-- Where it lies. -/
structure Gh where
  own : Nat → Nat
  mb : Nat → Nat
  D : Nat → DataW Unit
  eb : Int → Nat

/-- How an entry stands in the map: by its block. -/
def Rp : Value → Option (DataW Unit × List MemPlace)
  | .pointer (some ⟨e, 0, none⟩) => some (.lit (.int .i64 e), [])
  | .pointer none => some (.nil, [])
  | _ => none

theorem Rp_inv {v : Value} {e : Nat} {ps : List MemPlace} (h : Rp v = some (.lit (.int .i64 e), ps)) : v = .pointer (some ⟨e, 0, none⟩) := by
  unfold Rp at h
  split at h
  · simp at h
    obtain ⟨h1, -⟩ := h
    have e1 := Int.ofNat.inj h1
    subst e1
    rfl
  · simp at h
  · cases h
theorem Rp_nil {v : Value} {ps : List MemPlace} (h : Rp v = some (.nil, ps)) : v = .pointer none := by
  unfold Rp at h
  split at h
  · simp at h
  · rfl
  · cases h

abbrev Ab := Int → Option ByteArray

/-- A table at block b: what it tells is a. -/
structure Tb (w : World) (b : Nat) (g : Gh) (N : Nat) (a : Ab) : Prop where
  lock : ∀ i, i < 8 → w.cell? ⟨b, 3 * i, none⟩ = some (.int .i32 0)
  map : ∀ i, i < 8 → w.cell? ⟨b, 3 * i + 2, none⟩ = some (.map (some (g.mb i)))
  frz : ∀ o, w.frozen? ⟨b, o, none⟩ = false
  own1 : g.own b = 1
  own2 : ∀ i, i < 8 → g.own (g.mb i) = 2 + i
  ownE : ∀ k v, a k = some v → g.own (g.eb k) = 10
  inj : ∀ k k' v v', a k = some v → a k' = some v' → g.eb k = g.eb k' → k = k'
  lt : ∀ j, g.own j ≠ 0 → j < w.heap.size
  maps : ∀ i, i < 8 → w.ownsMap Try.prog 3 Rp (g.mb i) N (g.D i)
  wf : ∀ k v, a k = some v → In64 k
  has : ∀ i k, i < 8 → In64 k → Maps.has (g.D i) (.int .i64 k) = (decide (strp k = i) && (a k).isSome)
  atk : ∀ k v, a k = some v → (g.D (strp k)).atKey (.int .i64 k) .nil = .lit (.int .i64 (g.eb k))
  ent : ∀ k v, a k = some v → w.heap[g.eb k]? = some (.cells #[.string v, .int .u32 1] 111)

theorem Tb.blt {w : World} {b : Nat} {g : Gh} {N : Nat} {a : Ab} (h : Tb w b g N a) : b < w.heap.size := h.lt b (by rw [h.own1]; decide)

theorem Tb.fr {S : Nat → Prop} {w w' : World} {b : Nat} {g : Gh} {N : Nat} {a : Ab} (h : Tb w b g N a) (f : Fr S w w') (hS : ∀ j, g.own j ≠ 0 → ¬ S j) : Tb w' b g N a where
  lock := fun i hi => (f.cell h.blt (hS b (by rw [h.own1]; decide))).trans (h.lock i hi)
  map := fun i hi => (f.cell h.blt (hS b (by rw [h.own1]; decide))).trans (h.map i hi)
  frz := fun o => (f.frozen h.blt (hS b (by rw [h.own1]; decide))).trans (h.frz o)
  own1 := h.own1
  own2 := h.own2
  ownE := h.ownE
  inj := h.inj
  lt := fun j hj => Nat.lt_of_lt_of_le (h.lt j hj) f.size
  maps := fun i hi => ownsMap_fr (h.maps i hi) f (hS _ (by rw [h.own2 i hi]; omega))
  wf := h.wf
  has := h.has
  atk := h.atk
  ent := fun k v hk => (f.block _ (h.lt _ (by rw [h.ownE k v hk]; decide)) (hS _ (by rw [h.ownE k v hk]; decide))).trans (h.ent k v hk)
end Go.Proofs.Ytocaepjdjhideaa

namespace Go.Proofs.Ytocaepjdjhideaa
open Go.RowKit (wrap32 wrap64)
open Go.MuLone
set_option linter.unusedVariables false
set_option linter.unusedSimpArgs false

theorem w64 {n : Int} (h1 : -9223372036854775808 ≤ n) (h2 : n ≤ 9223372036854775807) : wrap64 n = n := by unfold wrap64; omega
theorem i64w {n : Int} (h1 : -9223372036854775808 ≤ n) (h2 : n ≤ 9223372036854775807) : IntKind.i64.wrap n = n := by
  rw [IntKind.wrap_i64 n]; omega
theorem tmod_bound (k n : Int) (hn : 1 ≤ n) : -n < k.tmod n ∧ k.tmod n < n := by
  have h := Int.natAbs_tmod k n
  have h2 : k.natAbs % n.natAbs < n.natAbs := Nat.mod_lt _ (by omega)
  omega
theorem mod_eq (k n : Int) (hn : 1 ≤ n) : (k.tmod n + n).tmod n = k % n := by
  have hb := tmod_bound k n hn
  rw [Int.tmod_eq_emod_of_nonneg (by omega)]
  have h1 : k.tmod n = k - n * k.tdiv n := by have := Int.tmod_add_mul_tdiv k n; omega
  rw [Int.add_emod_right, h1, Int.sub_mul_emod_self_left]

set_option maxRecDepth 100000 in
set_option maxHeartbeats 1000000 in
theorem mod_any (k n : Int) (hn : 1 ≤ n) (hn2 : n ≤ 100000000) (w : World) : Calls Try.prog 43 #[vI k, vI n] w fun e w' => e = .returned (vI (k % n)) ∧ w' = w := by
  have hb := tmod_bound k n hn
  have h0 : ¬ n = 0 := by omega
  have hw : wrap64 (k.tmod n) = k.tmod n := w64 (by omega) (by omega)
  have hw2 : wrap64 (k.tmod n + n) = k.tmod n + n := w64 (by omega) (by omega)
  have hm := mod_eq k n hn
  have hn3 : 0 ≤ k % n := Int.emod_nonneg _ (by omega)
  have hn4 : k % n < n := Int.emod_lt_of_pos _ (by omega)
  have hw3 : wrap64 ((k.tmod n + n).tmod n) = k % n := by rw [hm]; exact w64 (by omega) (by omega)
  clear hn3 hn4 hb
  go_enter Try.func43, Try.ntmps43
  go_wp2_with fail
  go_ret
  exact ⟨rfl, rfl⟩

set_option maxRecDepth 100000 in
set_option maxHeartbeats 1000000 in
theorem stripeOf_any (k : Int) (w : World) : Calls Try.prog 23 #[vI k] w fun e w' => e = .returned (vI (strp k)) ∧ w' = w := by
  have hs : ((strp k : Nat) : Int) = k % 8 := by unfold strp; omega
  rw [hs]
  clear hs
  go_enter Try.func23, Try.ntmps23
  go_wp2_with (go_at_call 43; refine (mod_any k 8 (by decide) (by decide) _).mono ?_; rintro e w' ⟨rfl, rfl⟩)
  go_ret
  exact ⟨rfl, rfl⟩

set_option maxRecDepth 100000 in
set_option maxHeartbeats 1000000 in
/-- (*atomic.Bool).Load -/
theorem aload_any (b o : Nat) (x : Int) (w : World) (hc : w.cell? ⟨b, o, none⟩ = some (.int .u32 x)) :
    Calls Try.prog 46 #[.pointer (some ⟨b, o, none⟩)] w fun e w' => e = .returned (.bool (x != 0)) ∧ w' = w := by
  have hl := run_call_load (P := Try.prog) Try.func64 (by kernel_rfl) (by kernel_rfl) (by kernel_rfl) .u32 (by kernel_rfl) hc
  go_enter Try.func46, Try.ntmps46
  go_wp2_with fail
  go_ret
  exact ⟨rfl, rfl⟩

set_option maxRecDepth 100000 in
set_option maxHeartbeats 1000000 in
theorem b32_true (w : World) : Calls Try.prog 95 #[.bool true] w fun e w' => e = .returned (.int .u32 1) ∧ w' = w := by
  go_enter Try.func95, Try.ntmps95
  go_wp2_with fail
  go_ret
  exact ⟨rfl, rfl⟩

set_option maxRecDepth 100000 in
set_option maxHeartbeats 1000000 in
/-- (*atomic.Bool).Store(true) -/
theorem astore_any (b o : Nat) (u : Value) (w : World) (hc : w.cell? ⟨b, o, none⟩ = some u) (hz : w.frozen? ⟨b, o, none⟩ = false) :
    Calls Try.prog 75 #[.pointer (some ⟨b, o, none⟩), .bool true] w fun e w' => e = .returned (.tuple #[]) ∧ w' = w.drew.setCell ⟨b, o, none⟩ (.int .u32 1) := by
  have hst := run_call_store (P := Try.prog) Try.func94 (by kernel_rfl) (by kernel_rfl) (by kernel_rfl) (by kernel_rfl) (k := .u32) (y := 1) (w := w.drew) (a := ⟨b, o, none⟩) (u := u) (by simpa using hc) (by simpa using hz)
  go_enter Try.func75, Try.ntmps75
  go_wp2
  go_region_calls
  all_goals (go_end0; exact ⟨rfl, rfl⟩)
end Go.Proofs.Ytocaepjdjhideaa

namespace Go.Proofs.Ytocaepjdjhideaa
open Go.RowKit (wrap32 wrap64)
open Go.MuLone
set_option linter.unusedVariables false
set_option linter.unusedSimpArgs false

set_option maxRecDepth 100000 in
set_option maxHeartbeats 1000000 in
/-- fill of an entry that has its value: nothing. -/
theorem fill_no (e : Nat) (v x : ByteArray) (w : World) (h : w.heap[e]? = some (.cells #[.string v, .int .u32 1] 111)) :
    Calls Try.prog 52 #[.pointer (some ⟨e, 0, none⟩), .string x] w fun en w' => en = .returned (.bool false) ∧ w' = w := by
  have c1 : w.cell? ⟨e, 1, none⟩ = some (.int .u32 1) := by rw [cell_of h]; rfl
  go_enter Try.func52, Try.ntmps52
  go_wp2_with (go_at_call 46; refine (aload_any e 1 1 _ c1).mono ?_; rintro _ _ ⟨rfl, rfl⟩)
  go_ret
  exact ⟨rfl, rfl⟩

set_option maxRecDepth 100000 in
set_option maxHeartbeats 1000000 in
/-- fill of one that has none. -/
theorem fill_yes (e : Nat) (v x : ByteArray) (w : World) (h : w.heap[e]? = some (.cells #[.string v, .int .u32 0] 111)) :
    Calls Try.prog 52 #[.pointer (some ⟨e, 0, none⟩), .string x] w fun en w' => en = .returned (.bool true) ∧ w' = ((w.setCell ⟨e, 0, none⟩ (.string x)).drew).setCell ⟨e, 1, none⟩ (.int .u32 1) := by
  have c0 : w.cell? ⟨e, 0, none⟩ = some (.string v) := by rw [cell_of h]; rfl
  have c1 : w.cell? ⟨e, 1, none⟩ = some (.int .u32 0) := by rw [cell_of h]; rfl
  have z0 : w.frozen? ⟨e, 0, none⟩ = false := frozen_of h 0
  have h2 := set_of h 0 (.string x)
  have c2 : (w.setCell ⟨e, 0, none⟩ (.string x)).cell? ⟨e, 1, none⟩ = some (.int .u32 0) := by rw [cell_of h2]; rfl
  have z2 : (w.setCell ⟨e, 0, none⟩ (.string x)).frozen? ⟨e, 1, none⟩ = false := frozen_of h2 1
  clear h h2
  go_enter Try.func52, Try.ntmps52
  go_wp2_with (first
    | (go_at_call 46; refine (aload_any e 1 0 _ c1).mono ?_; rintro _ _ ⟨rfl, rfl⟩)
    | (go_at_call 75; refine (astore_any e 1 _ _ c2 z2).mono ?_; rintro _ _ ⟨rfl, rfl⟩))
  go_ret
  exact ⟨rfl, rfl⟩

set_option maxRecDepth 100000 in
set_option maxHeartbeats 1000000 in
theorem read_nil (w : World) : Calls Try.prog 25 #[.pointer none] w fun en w' => en = .returned (.tuple #[.string ⟨#[]⟩, .bool false]) ∧ w' = w := by
  go_enter Try.func25, Try.ntmps25
  go_wp2_with fail
  go_ret2
  exact ⟨rfl, rfl⟩

set_option maxRecDepth 100000 in
set_option maxHeartbeats 1000000 in
theorem read_yes (e : Nat) (v : ByteArray) (w : World) (h : w.heap[e]? = some (.cells #[.string v, .int .u32 1] 111)) :
    Calls Try.prog 25 #[.pointer (some ⟨e, 0, none⟩)] w fun en w' => en = .returned (.tuple #[.string v, .bool true]) ∧ w' = w := by
  have c0 : w.cell? ⟨e, 0, none⟩ = some (.string v) := by rw [cell_of h]; rfl
  have c1 : w.cell? ⟨e, 1, none⟩ = some (.int .u32 1) := by rw [cell_of h]; rfl
  clear h
  go_enter Try.func25, Try.ntmps25
  go_wp2_with (go_at_call 46; refine (aload_any e 1 1 _ c1).mono ?_; rintro _ _ ⟨rfl, rfl⟩)
  go_ret2
  exact ⟨rfl, rfl⟩

theorem under77 : Try.prog.underlying 77 = some (.map 3 69) := by kernel_rfl
theorem under3 : Try.prog.underlying 3 = some (.int .i64) := by kernel_rfl
theorem keyed3 : Go.Maps.Keyed Try.prog 3 := Maps.int_keyed under3
theorem zero69 (w : World) : (zeroValue 69).run Try.prog w = .ok (.pointer none) w := by kernel_rfl
theorem wf_k (k : Int) (h : In64 k) : (Lit.int .i64 k).wf = true := WalkArith.wf_i64 (by omega)

/-- What a stripe's map tells of a key. -/
def entP (g : Gh) (a : Ab) (k : Int) : Value := match a k with | some _ => .pointer (some ⟨g.eb k, 0, none⟩) | none => .pointer none

theorem Tb.look {w0 w : World} {b : Nat} {g : Gh} {N : Nat} {a : Ab} (h : Tb w0 b g N a) (k : Int) (hk : In64 k) (hm : w.ownsMap Try.prog 3 Rp (g.mb (strp k)) N (g.D (strp k))) :
    (Instr.lookup 77 (.map (some (g.mb (strp k)))) (vI k) false).run Try.prog w = .ok (entP g a k) w := by
  obtain ⟨v, ps, hrun, hv⟩ := hm.lookup keyed3 under77 (zero69 w) (zd := .nil) (zp := []) rfl (Maps.keyOf_int_mk under3 (wf_k k hk))
  rw [hrun]
  have hh := h.has (strp k) k (strp_lt k) hk
  unfold entP
  cases hc : a k with
  | none =>
    rw [hc] at hh
    have hn : Maps.has (g.D (strp k)) (.int .i64 k) = false := by rw [hh]; simp
    rw [Maps.atKey_of_not_has hn] at hv
    rw [Rp_nil hv]
  | some l =>
    rw [h.atk k l hc] at hv
    rw [Rp_inv hv]
end Go.Proofs.Ytocaepjdjhideaa

namespace Go.Proofs.Ytocaepjdjhideaa
open Go.RowKit (wrap32 wrap64)
open Go.MuLone
set_option linter.unusedVariables false
set_option linter.unusedSimpArgs false

theorem fr_two (w : World) (b o : Nat) (x y : Value) : Fr (fun j => j = b) w ((w.setCell ⟨b, o, none⟩ x).setCell ⟨b, o, none⟩ y) :=
  ((Fr.refl (fun j => j = b) w).setCell _ _ (Or.inl rfl)).setCell _ _ (Or.inl rfl)

theorem cell_lock {w : World} {b o : Nat} (h : w.cell? ⟨b, o, none⟩ = some (.int .i32 0)) (x : Value) (o' : Nat) : ((w.setCell ⟨b, o, none⟩ x).setCell ⟨b, o, none⟩ (.int .i32 0)).cell? ⟨b, o', none⟩ = w.cell? ⟨b, o', none⟩ := by
  by_cases e : o' = o
  · subst e
    rw [World.cell?_setCell_same _ _ _ (World.cell?_setCell_same _ _ _ h), h]
  · rw [World.cell?_setCell_other _ _ _ _ (by first | (simp; done) | (simp; omega)), World.cell?_setCell_other _ _ _ _ (by first | (simp; done) | (simp; omega))]

/-- A lock that was taken and let go. -/
theorem Tb.relock {w : World} {b : Nat} {g : Gh} {N : Nat} {a : Ab} (h : Tb w b g N a) (o : Nat) (ho : w.cell? ⟨b, o, none⟩ = some (.int .i32 0)) (x : Value) : Tb ((w.setCell ⟨b, o, none⟩ x).setCell ⟨b, o, none⟩ (.int .i32 0)) b g N a where
  lock := fun i hi => (cell_lock ho x _).trans (h.lock i hi)
  map := fun i hi => (cell_lock ho x _).trans (h.map i hi)
  frz := fun o' => by simpa using h.frz o'
  own1 := h.own1
  own2 := h.own2
  ownE := h.ownE
  inj := h.inj
  lt := fun j hj => by simpa using h.lt j hj
  maps := fun i hi => ownsMap_fr (h.maps i hi) (fr_two w b o _ _) (by intro e; have h1 := h.own1; have h2 := h.own2 i hi; rw [e] at h2; omega)
  wf := h.wf
  has := h.has
  atk := h.atk
  ent := fun k v hk => by
    have h2 := h.ownE k v hk
    rw [(fr_two w b o x (.int .i32 0)).block _ (h.lt _ (by rw [h2]; decide)) (by intro e; rw [e, h.own1] at h2; omega)]
    exact h.ent k v hk

/-- One more key. -/
def upd (a : Ab) (k : Int) (v : ByteArray) : Ab := fun x => if x = k then some v else a x
def Gh.more (g : Gh) (k : Int) (e : Nat) : Gh where
  own := fun j => if j = e then 10 else g.own j
  mb := g.mb
  D := fun i => if i = strp k then (g.D i).put (.int .i64 k) (.lit (.int .i64 e)) else g.D i
  eb := fun x => if x = k then e else g.eb x

abbrev newEnt : Obj := .cells #[.string ⟨#[]⟩, .int .u32 0] 111
/-- The world behind a Publish of a new key: w1 has the map turned. -/
def pubW (w w1 : World) (b o : Nat) (v : ByteArray) : World := (((w1.setCell ⟨w.heap.size, 0, none⟩ (.string v)).drew).setCell ⟨w.heap.size, 1, none⟩ (.int .u32 1)).setCell ⟨b, o, none⟩ (.int .i32 0)

theorem Tb.pub {w w1 : World} {b : Nat} {g : Gh} {N : Nat} {a : Ab} (h : Tb w b g N a) (k : Int) (v : ByteArray) (hk : In64 k) (o : Nat) (ho : o = 3 * strp k)
    (hown : w1.ownsMap Try.prog 3 Rp (g.mb (strp k)) (N + 1) ((g.D (strp k)).put (.int .i64 k) (.lit (.int .i64 w.heap.size))))
    (ht : ((w.setCell ⟨b, o, none⟩ (.int .i32 1)).alloc newEnt).mapTurned w1 (g.mb (strp k))) :
    Tb (pubW w w1 b o v) b (g.more k w.heap.size) (N + 1) (upd a k v) ∧ Fr (fun j => g.own j ≠ 0) w (pubW w w1 b o v) ∧ w1.heap[w.heap.size]? = some newEnt ∧ w1.cell? ⟨b, o, none⟩ = some (.int .i32 1) := by
  have hbl := h.blt
  have hs := strp_lt k
  have hmb := h.own2 (strp k) hs
  have hb1 := h.own1
  have hne : g.mb (strp k) ≠ b := by intro e; rw [e] at hmb; omega
  have hml : g.mb (strp k) < w.heap.size := h.lt _ (by omega)
  have hlock := h.lock (strp k) hs
  rw [← ho] at hlock
  have hsz : ((w.setCell ⟨b, o, none⟩ (.int .i32 1)).alloc newEnt).heap.size = w.heap.size + 1 := by simp
  have F1 : Fr (fun j => j = g.mb (strp k)) ((w.setCell ⟨b, o, none⟩ (.int .i32 1)).alloc newEnt) w1 := (grown_fr ht.grown).mono (fun j _ e => (Option.some.inj e).symm)
  have F0 : Fr (fun j => g.own j ≠ 0) w ((w.setCell ⟨b, o, none⟩ (.int .i32 1)).alloc newEnt) := ((Fr.refl _ w).setCell _ _ (Or.inl (by show g.own b ≠ 0; omega))).alloc _
  have F2 : Fr (fun j => g.own j ≠ 0) w w1 := F0.trans (F1.mono (fun j _ e => by rw [e]; omega))
  have hsz1 : w.heap.size < w1.heap.size := by have := F1.size; omega
  have F3 : Fr (fun j => g.own j ≠ 0) w (pubW w w1 b o v) := by
    unfold pubW
    exact (((F2.setCell _ _ (Or.inr (Nat.le_refl _))).drew).setCell _ _ (Or.inr (Nat.le_refl _))).setCell _ _ (Or.inl (by show g.own b ≠ 0; omega))
  have hnew : w1.heap[w.heap.size]? = some newEnt := by
    rw [F1.block w.heap.size (by omega) (by omega)]
    have := heap_alloc_last (w.setCell ⟨b, o, none⟩ (.int .i32 1)) newEnt
    simpa using this
  have hcb : ∀ o', w1.cell? ⟨b, o', none⟩ = (w.setCell ⟨b, o, none⟩ (.int .i32 1)).cell? ⟨b, o', none⟩ := fun o' => by
    rw [F1.cell (k := b) (by omega) (fun e => hne e.symm)]
    exact World.cell?_alloc_past _ _ _ (by simpa using hbl)
  have hl1 : w1.cell? ⟨b, o, none⟩ = some (.int .i32 1) := by rw [hcb]; exact World.cell?_setCell_same _ _ _ hlock
  have hcf : ∀ o', (pubW w w1 b o v).cell? ⟨b, o', none⟩ = w.cell? ⟨b, o', none⟩ := fun o' => by
    unfold pubW
    have far0 : ∀ (u : World) (x : Value) (o2 o3 : Nat), (u.setCell ⟨w.heap.size, o2, none⟩ x).cell? ⟨b, o3, none⟩ = u.cell? ⟨b, o3, none⟩ := fun u x o2 o3 => World.cell?_setCell_other _ _ _ _ (by first | (simp; done) | (simp; omega))
    by_cases e : o' = o
    · subst e
      rw [World.cell?_setCell_same (u := .int .i32 1) _ _ _ (by rw [far0, World.cell?_drew, far0]; exact hl1), hlock]
    · rw [World.cell?_setCell_other _ _ _ _ (by first | (simp; done) | (simp; omega)), far0, World.cell?_drew, far0, hcb, World.cell?_setCell_other _ _ _ _ (by first | (simp; done) | (simp; omega))]
  have hfz : ∀ o', (pubW w w1 b o v).frozen? ⟨b, o', none⟩ = w.frozen? ⟨b, o', none⟩ := fun o' => by
    unfold pubW
    simp only [World.frozen?_setCell, World.frozen?_drew]
    rw [ht.frozen, World.frozen?_alloc_past _ _ _ (by simpa using hbl), World.frozen?_setCell]
  have hent : (pubW w w1 b o v).heap[w.heap.size]? = some (.cells #[.string v, .int .u32 1] 111) := by
    unfold pubW
    rw [Go.RowKit.Below.heap_setCell _ _ _ _ (by show w.heap.size ≠ b; omega)]
    have e1 := set_of hnew 0 (.string v)
    have e2 : ((w1.setCell ⟨w.heap.size, 0, none⟩ (.string v)).drew).heap[w.heap.size]? = some (.cells (#[Value.string ⟨#[]⟩, .int .u32 0].setIfInBounds 0 (.string v)) 111) := e1
    have e3 := set_of e2 1 (.int .u32 1)
    rw [e3]
    rfl
  have hnewown : g.own w.heap.size = 0 := by
    by_cases e : g.own w.heap.size = 0
    · exact e
    · exact absurd (h.lt _ e) (by omega)
  refine ⟨?_, F3, hnew, hl1⟩
  have hkl : WideAt.IsKeyLit (.int .i64 k) := trivial
  have hlit : ∀ x : Int, x ≠ k → (Lit.int .i64 x) ≠ .int .i64 k := fun x hx e => hx (by injection e)
  constructor
  · exact fun i hi => (hcf _).trans (h.lock i hi)
  · exact fun i hi => (hcf _).trans (h.map i hi)
  · exact fun o' => (hfz o').trans (h.frz o')
  · show (if b = w.heap.size then 10 else g.own b) = 1
    rw [if_neg (by omega)]; exact hb1
  · intro i hi
    show (if g.mb i = w.heap.size then 10 else g.own (g.mb i)) = 2 + i
    have := h.lt (g.mb i) (by rw [h.own2 i hi]; omega)
    rw [if_neg (by omega)]; exact h.own2 i hi
  · intro x y hx
    show (if (if x = k then w.heap.size else g.eb x) = w.heap.size then 10 else g.own (if x = k then w.heap.size else g.eb x)) = 10
    by_cases e : x = k
    · simp [e]
    · have hx' : a x = some y := by simpa [upd, e] using hx
      have := h.ownE x y hx'
      simp [e, this]
  · intro x x' y y' hx hx' he
    have he' : (if x = k then w.heap.size else g.eb x) = (if x' = k then w.heap.size else g.eb x') := he
    by_cases e : x = k
    · by_cases e' : x' = k
      · omega
      · have hy : a x' = some y' := by simpa [upd, e'] using hx'
        have := h.lt (g.eb x') (by rw [h.ownE x' y' hy]; decide)
        rw [if_pos e, if_neg e'] at he'
        omega
    · have hy : a x = some y := by simpa [upd, e] using hx
      by_cases e' : x' = k
      · have := h.lt (g.eb x) (by rw [h.ownE x y hy]; decide)
        rw [if_neg e, if_pos e'] at he'
        omega
      · rw [if_neg e, if_neg e'] at he'
        exact h.inj x x' y y' hy (by simpa [upd, e'] using hx') he'
  · intro j hj
    have hj' : (if j = w.heap.size then 10 else g.own j) ≠ 0 := hj
    have hF := F3.size
    have hf1 : (pubW w w1 b o v).heap.size = w1.heap.size := by unfold pubW; simp
    by_cases e : j = w.heap.size
    · omega
    · rw [if_neg e] at hj'
      have := h.lt j hj'
      omega
  · intro i hi
    show (pubW w w1 b o v).ownsMap Try.prog 3 Rp (g.mb i) (N + 1) (if i = strp k then (g.D i).put (.int .i64 k) (.lit (.int .i64 w.heap.size)) else g.D i)
    by_cases e : i = strp k
    · subst e
      rw [if_pos rfl]
      have F4 : Fr (fun j => j = b ∨ j = w.heap.size) w1 (pubW w w1 b o v) := by
        unfold pubW
        exact ((((Fr.refl _ w1).setCell _ _ (Or.inl (Or.inr rfl))).drew).setCell _ _ (Or.inl (Or.inr rfl))).setCell _ _ (Or.inl (Or.inl rfl))
      exact ownsMap_fr hown F4 (by intro e; rcases e with e | e; exact hne e; omega)
    · rw [if_neg e]
      have hi2 := h.own2 i hi
      have hbi : g.mb i ≠ g.mb (strp k) := by intro e2; rw [e2] at hi2; omega
      have hib : g.mb i ≠ b := by intro e2; rw [e2] at hi2; omega
      have hil := h.lt (g.mb i) (by omega)
      have F5 : Fr (fun j => j = b ∨ j = g.mb (strp k)) w (pubW w w1 b o v) := by
        have G0 : Fr (fun j => j = b ∨ j = g.mb (strp k)) w ((w.setCell ⟨b, o, none⟩ (.int .i32 1)).alloc newEnt) := ((Fr.refl _ w).setCell _ _ (Or.inl (Or.inl rfl))).alloc _
        have G1 := G0.trans (F1.mono (T := fun j => j = b ∨ j = g.mb (strp k)) (fun j _ e => Or.inr e))
        unfold pubW
        exact (((G1.setCell _ _ (Or.inr (Nat.le_refl _))).drew).setCell _ _ (Or.inr (Nat.le_refl _))).setCell _ _ (Or.inl (Or.inl rfl))
      exact (ownsMap_fr (h.maps i hi) F5 (by intro e2; rcases e2 with e2 | e2; exact hib e2; exact hbi e2)).mono (Nat.le_succ N)
  · intro x y hx
    by_cases e : x = k
    · rw [e]; exact hk
    · exact h.wf x y (by simpa [upd, e] using hx)
  · intro i x hi hx
    show Maps.has (if i = strp k then (g.D i).put (.int .i64 k) (.lit (.int .i64 w.heap.size)) else g.D i) (.int .i64 x) = _
    by_cases e : x = k
    · subst e
      by_cases e2 : i = strp x
      · rw [if_pos e2, Maps.has_put_same (h.maps i hi).isMap hkl]
        simp [upd, e2]
      · rw [if_neg e2, h.has i x hi hx]
        have : ¬ strp x = i := fun h => e2 h.symm
        simp [this]
    · have hu : upd a k v x = a x := by simp [upd, e]
      rw [hu]
      by_cases e2 : i = strp k
      · rw [if_pos e2, Maps.has_put_other (hlit x e)]; exact h.has i x hi hx
      · rw [if_neg e2]; exact h.has i x hi hx
  · intro x y hx
    show (if strp x = strp k then (g.D (strp x)).put (.int .i64 k) (.lit (.int .i64 w.heap.size)) else g.D (strp x)).atKey (.int .i64 x) .nil = .lit (.int .i64 ((if x = k then w.heap.size else g.eb x : Nat)))
    by_cases e : x = k
    · subst e
      rw [if_pos rfl, if_pos rfl]
      exact Maps.atKey_put_same (h.maps _ hs).isMap hkl _ _
    · have hy : a x = some y := by simpa [upd, e] using hx
      rw [if_neg e]
      by_cases e2 : strp x = strp k
      · rw [if_pos e2, Maps.atKey_put_other (hlit x e)]; exact h.atk x y hy
      · rw [if_neg e2]; exact h.atk x y hy
  · intro x y hx
    show (pubW w w1 b o v).heap[(if x = k then w.heap.size else g.eb x : Nat)]? = _
    by_cases e : x = k
    · have hy : v = y := by simpa [upd, e] using hx
      rw [if_pos e, ← hy]; exact hent
    · have hy : a x = some y := by simpa [upd, e] using hx
      rw [if_neg e]
      have hE := h.ownE x y hy
      have hxl := h.lt (g.eb x) (by omega)
      have hxb : g.eb x ≠ b := by intro e2; rw [e2] at hE; omega
      have hxm : g.eb x ≠ g.mb (strp k) := by intro e2; rw [e2] at hE; omega
      have G0 : Fr (fun j => j = b ∨ j = g.mb (strp k)) w ((w.setCell ⟨b, o, none⟩ (.int .i32 1)).alloc newEnt) := ((Fr.refl _ w).setCell _ _ (Or.inl (Or.inl rfl))).alloc _
      have G1 := G0.trans (F1.mono (T := fun j => j = b ∨ j = g.mb (strp k)) (fun j _ e => Or.inr e))
      have G2 : Fr (fun j => j = b ∨ j = g.mb (strp k)) w (pubW w w1 b o v) := by
        unfold pubW
        exact (((G1.setCell _ _ (Or.inr (Nat.le_refl _))).drew).setCell _ _ (Or.inr (Nat.le_refl _))).setCell _ _ (Or.inl (Or.inl rfl))
      rw [G2.block _ hxl (by intro e2; rcases e2 with e2 | e2; exact hxb e2; exact hxm e2)]
      exact h.ent x y hy
end Go.Proofs.Ytocaepjdjhideaa

namespace Go.Proofs.Ytocaepjdjhideaa
open Go.RowKit (wrap32 wrap64)
open Go.MuLone
open Go.Maps (Keyed)
set_option linter.unusedVariables false
set_option linter.unusedSimpArgs false

set_option maxRecDepth 100000 in
set_option maxHeartbeats 1000000 in
theorem find_any (b : Nat) (g : Gh) (N : Nat) (a : Ab) (k : Int) (hk : In64 k) (o : Nat) (ho : o = 3 * strp k) (w : World) (h : Tb w b g N a) :
    Calls Try.prog 24 #[.pointer (some ⟨b, o, none⟩), vI k] w fun e w' => e = .returned (entP g a k) ∧ w' = (w.setCell ⟨b, o, none⟩ (.int .i32 1)).setCell ⟨b, o, none⟩ (.int .i32 0) := by
  have c0 := h.lock (strp k) (strp_lt k)
  have c2 := h.map (strp k) (strp_lt k)
  rw [← ho] at c0 c2
  have f0 := h.frz o
  have hne : g.mb (strp k) ≠ b := by intro e; have h1 := h.own1; have h2 := h.own2 (strp k) (strp_lt k); rw [e] at h2; omega
  have hrun := h.look (w := w.setCell ⟨b, o, none⟩ (.int .i32 1)) k hk ((h.maps _ (strp_lt k)).setCell hne _)
  clear ho
  generalize g.mb (strp k) = bm at *
  clear hne hk
  go_enter_defers Try.func24, Try.ntmps24
  go_wp2_with (go_at_call 44; refine (lock_free muLib ⟨b, o, none⟩ _ c0 f0).mono ?_; rintro e w' ⟨rfl, rfl⟩)
  refine leaves_cons (f := 45) (args := #[.pointer (some ⟨b, o, none⟩)]) (by simp) (by simp [go_sem]) ?_
  refine (unlock_deferred muLib ⟨b, o, none⟩ .returning _ ?_ ?_).mono ?_
  · exact World.cell?_setCell_same w ⟨b, o, none⟩ (.int .i32 1) c0
  · simp [f0]
  rintro e u' w'' ⟨rfl, rfl, rfl⟩
  exact ⟨_, results_tmp rfl _ _ _, rfl, rfl⟩

set_option maxRecDepth 100000 in
set_option maxHeartbeats 1000000 in
theorem publish_no (b : Nat) (g : Gh) (N : Nat) (a : Ab) (k : Int) (v : ByteArray) (y : ByteArray) (hy : a k = some y) (o : Nat) (ho : o = 3 * strp k) (w : World) (h : Tb w b g N a) :
    Calls Try.prog 30 #[.pointer (some ⟨b, o, none⟩), vI k, .string v] w fun e w' => e = .returned (.bool false) ∧ w' = (w.setCell ⟨b, o, none⟩ (.int .i32 1)).setCell ⟨b, o, none⟩ (.int .i32 0) := by
  have c0 := h.lock (strp k) (strp_lt k)
  have c2 := h.map (strp k) (strp_lt k)
  rw [← ho] at c0 c2
  have f0 := h.frz o
  have hne : g.mb (strp k) ≠ b := by intro e; have h1 := h.own1; have h2 := h.own2 (strp k) (strp_lt k); rw [e] at h2; omega
  have hrun := h.look (w := w.setCell ⟨b, o, none⟩ (.int .i32 1)) k (h.wf k y hy) ((h.maps _ (strp_lt k)).setCell hne _)
  have heP : entP g a k = .pointer (some ⟨g.eb k, 0, none⟩) := by unfold entP; rw [hy]
  rw [heP] at hrun
  have hE := h.ownE k y hy
  have hent : (w.setCell ⟨b, o, none⟩ (.int .i32 1)).heap[g.eb k]? = some (.cells #[.string y, .int .u32 1] 111) := by
    rw [Go.RowKit.Below.heap_setCell _ _ _ _ (by show g.eb k ≠ b; intro e; rw [e, h.own1] at hE; omega)]
    exact h.ent k y hy
  clear ho heP hE
  generalize g.mb (strp k) = bm at *
  generalize g.eb k = eb at *
  clear hne
  go_enter_defers Try.func30, Try.ntmps30
  go_wp2_with (first
    | (go_at_call 44; refine (lock_free muLib ⟨b, o, none⟩ _ c0 f0).mono ?_; rintro e w' ⟨rfl, rfl⟩)
    | (go_at_call 52; refine (fill_no eb y v _ hent).mono ?_; rintro _ _ ⟨rfl, rfl⟩))
  refine leaves_cons (f := 45) (args := #[.pointer (some ⟨b, o, none⟩)]) (by simp) (by simp [go_sem]) ?_
  refine (unlock_deferred muLib ⟨b, o, none⟩ .returning _ ?_ ?_).mono ?_
  · exact World.cell?_setCell_same w ⟨b, o, none⟩ (.int .i32 1) c0
  · simp [f0]
  rintro e u' w'' ⟨rfl, rfl, rfl⟩
  exact ⟨_, results_tmp rfl _ _ _, rfl, rfl⟩

set_option maxRecDepth 100000 in
set_option maxHeartbeats 1000000 in
theorem publish_yes (b : Nat) (g : Gh) (N : Nat) (a : Ab) (k : Int) (hk : In64 k) (v : ByteArray) (hy : a k = none) (hN : N < maxLen) (o : Nat) (ho : o = 3 * strp k) (w : World) (h : Tb w b g N a) :
    Calls Try.prog 30 #[.pointer (some ⟨b, o, none⟩), vI k, .string v] w fun e w' => e = .returned (.bool true) ∧ Tb w' b (g.more k w.heap.size) (N + 1) (upd a k v) ∧ Fr (fun j => g.own j ≠ 0) w w' := by
  have c0 := h.lock (strp k) (strp_lt k)
  have c2 := h.map (strp k) (strp_lt k)
  rw [← ho] at c0 c2
  have f0 := h.frz o
  have hne : g.mb (strp k) ≠ b := by intro e; have h1 := h.own1; have h2 := h.own2 (strp k) (strp_lt k); rw [e] at h2; omega
  have hm1 := (h.maps _ (strp_lt k)).setCell (a := ⟨b, o, none⟩) hne (.int .i32 1)
  have hrun := h.look (w := w.setCell ⟨b, o, none⟩ (.int .i32 1)) k hk hm1
  have heP : entP g a k = .pointer none := by unfold entP; rw [hy]
  rw [heP] at hrun
  have hown1 := hm1.alloc newEnt
  have hkey := Maps.keyOf_int_mk under3 (wf_k k hk)
  have hP : Hd (∀ w1 : World, w1.ownsMap Try.prog 3 Rp (g.mb (strp k)) (N + 1) ((g.D (strp k)).put (.int .i64 k) (.lit (.int .i64 w.heap.size))) →
      ((w.setCell ⟨b, o, none⟩ (.int .i32 1)).alloc newEnt).mapTurned w1 (g.mb (strp k)) →
      Tb (pubW w w1 b o v) b (g.more k w.heap.size) (N + 1) (upd a k v) ∧ Fr (fun j => g.own j ≠ 0) w (pubW w w1 b o v) ∧ w1.heap[w.heap.size]? = some newEnt ∧ w1.cell? ⟨b, o, none⟩ = some (.int .i32 1)) := fun w1 p q => h.pub k v hk o ho p q
  have hbl := h.blt
  have hN' : Hd (N < maxLen) := hN
  have hRp : Rp (.pointer (some ⟨w.heap.size, 0, none⟩)) = some (.lit (.int .i64 w.heap.size), []) := rfl
  clear ho heP h hm1 hk hy hN
  obtain ⟨bm, ebm⟩ : ∃ bm, bm = g.mb (strp k) := ⟨_, rfl⟩
  rw [← ebm] at c2 hrun hown1 hP hne
  obtain ⟨D, eD⟩ : ∃ D, D = g.D (strp k) := ⟨_, rfl⟩
  rw [← eD] at hown1 hP
  clear ebm eD
  go_enter_defers Try.func30, Try.ntmps30
  go_wp2_with (first
    | (go_at_call 44; refine (lock_free muLib ⟨b, o, none⟩ _ c0 f0).mono ?_; rintro e w' ⟨rfl, rfl⟩)
    | (at_mapUpdate; refine wpList_mapUpdate_in _ rfl _ _ _ 77 rfl 3 69 keyed3 under77 _ bm N D rfl hown1 hN' _ _ _ rfl rfl hkey _ [] hRp ?_; intro w1 hown2 hturn1))
  obtain ⟨hT, hF, hnew, hl1⟩ := hP.out w1 hown2 hturn1
  have hfz := (hturn1.frozen ⟨b, o, none⟩).trans ((World.frozen?_alloc_past newEnt b o (by simpa using hbl)).trans (by simpa using f0))
  refine (fill_yes w.heap.size ⟨#[]⟩ v _ hnew).mono ?_
  rintro _ _ ⟨rfl, rfl⟩
  go_wp2_with fail
  refine leaves_cons (f := 45) (args := #[.pointer (some ⟨b, o, none⟩)]) (by simp) (by simp [go_sem]) ?_
  refine (unlock_deferred muLib ⟨b, o, none⟩ .returning _ ?_ ?_).mono ?_
  · rw [World.cell?_drew, World.cell?_setCell_other _ _ _ _ (by first | (simp; done) | (simp; omega)), World.cell?_setCell_other _ _ _ _ (by first | (simp; done) | (simp; omega))]
    exact hl1
  · simp only [World.frozen?_setCell, World.frozen?_drew]
    exact hfz
  rintro e u' w'' ⟨rfl, rfl, rfl⟩
  exact ⟨_, results_tmp rfl _ _ _, rfl, hT, hF⟩
end Go.Proofs.Ytocaepjdjhideaa

namespace Go.Proofs.Ytocaepjdjhideaa
open Go.RowKit (wrap32 wrap64)
open Go.MuLone
open Go.Maps (Keyed)
set_option linter.unusedVariables false
set_option linter.unusedSimpArgs false

/-! ### the table's calls -/
set_option maxRecDepth 100000 in
set_option maxHeartbeats 1000000 in
theorem lookup_nil (k : Int) (w : World) : Calls Try.prog 7 #[.pointer none, vI k] w fun e w' => e = .returned (.tuple #[.string ⟨#[]⟩, .bool false]) ∧ w' = w := by
  go_enter Try.func7, Try.ntmps7
  go_wp2_with fail
  go_ret2
  exact ⟨rfl, rfl⟩
set_option maxRecDepth 100000 in
set_option maxHeartbeats 1000000 in
theorem publish_nil (k : Int) (v : ByteArray) (w : World) : Calls Try.prog 9 #[.pointer none, vI k, .string v] w fun e w' => e = .returned (.bool false) ∧ w' = w := by
  go_enter Try.func9, Try.ntmps9
  go_wp2_with fail
  go_ret
  exact ⟨rfl, rfl⟩
set_option maxRecDepth 100000 in
set_option maxHeartbeats 1000000 in
theorem snapshot_nil (w : World) : Calls Try.prog 8 #[.pointer none] w fun e w' => e = .returned (.tuple #[.slice none 0 0, .slice none 0 0]) ∧ w' = w := by
  go_enter Try.func8, Try.ntmps8
  go_wp2_with fail
  go_ret2
  exact ⟨rfl, rfl⟩

/-- What Lookup answers. -/
def lookS (a : Ab) (k : Int) : ByteArray := (a k).getD ⟨#[]⟩
def lookB (a : Ab) (k : Int) : Bool := (a k).isSome

theorem read_any (b : Nat) (g : Gh) (N : Nat) (a : Ab) (k : Int) (w : World) (h : Tb w b g N a) :
    Calls Try.prog 25 #[entP g a k] w fun e w' => e = .returned (.tuple #[.string (lookS a k), .bool (lookB a k)]) ∧ w' = w := by
  unfold entP lookS lookB
  cases hc : a k with
  | none => exact read_nil w
  | some v => exact read_yes _ _ w (h.ent k v hc)

theorem Tb.drew {w : World} {b : Nat} {g : Gh} {N : Nat} {a : Ab} (h : Tb w b g N a) : Tb w.drew b g N a := h.fr (Fr.drew (Fr.refl (fun _ => False) w)) (fun _ _ h => h)

theorem find_end (b : Nat) (g : Gh) (N : Nat) (a : Ab) (k : Int) (hk : In64 k) (o : Nat) (ho : o = 3 * strp k) (w : World) (h : Tb w b g N a) :
    Calls Try.prog 24 #[.pointer (some ⟨b, o, none⟩), vI k] w fun e w' => e = .returned (entP g a k) ∧ Tb w' b g N a ∧ Fr (fun j => j = b) w w' := by
  refine (find_any b g N a k hk o ho w h).mono ?_
  rintro e w' ⟨rfl, rfl⟩
  exact ⟨rfl, h.relock o (by rw [ho]; exact h.lock _ (strp_lt k)) _, fr_two w b o _ _⟩

set_option maxRecDepth 100000 in
set_option maxHeartbeats 4000000 in
theorem lookup_any (b : Nat) (g : Gh) (N : Nat) (a : Ab) (k : Int) (hk : In64 k) (w : World) (h : Tb w b g N a) :
    Calls Try.prog 7 #[.pointer (some ⟨b, 0, none⟩), vI k] w fun e w' => e = .returned (.tuple #[.string (lookS a k), .bool (lookB a k)]) ∧ Tb w' b g N a ∧ Fr (fun j => j = b) w w' := by
  have hs := strp_lt k
  have hT : Hd (Tb w.drew b g N a) := h.drew
  have hk' : Hd (In64 k) := hk
  clear h hk
  go_enter Try.func7, Try.ntmps7
  go_wp2_with fail
  go_region_with ((first
    | (go_at_call 23; refine (stripeOf_any k _).mono ?_; rintro _ _ ⟨rfl, rfl⟩)
    | (go_at_call 24; refine (find_end b g N a k hk'.out _ (by omega) _ hT.out).mono ?_; rintro _ w1 ⟨rfl, hT1, hF1⟩)
    | (go_at_call 25; refine (read_any b g N a k _ hT1).mono ?_; rintro _ _ ⟨rfl, rfl⟩)))
  all_goals go_wp2_with fail
  all_goals go_ret2
  all_goals exact ⟨rfl, hT1, (Fr.drew (Fr.refl _ w)).trans hF1⟩

set_option maxRecDepth 100000 in
set_option maxHeartbeats 4000000 in
theorem Publish_no (b : Nat) (g : Gh) (N : Nat) (a : Ab) (k : Int) (v y : ByteArray) (hy : a k = some y) (w : World) (h : Tb w b g N a) :
    Calls Try.prog 9 #[.pointer (some ⟨b, 0, none⟩), vI k, .string v] w fun e w' => e = .returned (.bool false) ∧ Tb w' b g N a ∧ Fr (fun j => j = b) w w' := by
  have hs := strp_lt k
  have hT : Hd (Tb w.drew b g N a) := h.drew
  have hy' : Hd (a k = some y) := hy
  have hl : w.drew.cell? ⟨b, strp k * 3, none⟩ = some (.int .i32 0) := by rw [Nat.mul_comm]; exact h.drew.lock _ hs
  clear h hy
  go_enter Try.func9, Try.ntmps9
  go_wp2_with fail
  go_region_with ((first
    | (go_at_call 23; refine (stripeOf_any k _).mono ?_; rintro _ _ ⟨rfl, rfl⟩)
    | (go_at_call 30; refine (publish_no b g N a k v y hy'.out _ (Nat.mul_comm _ _) _ hT.out).mono ?_; rintro _ _ ⟨rfl, rfl⟩)))
  all_goals go_wp2_with fail
  all_goals go_ret
  all_goals exact ⟨rfl, hT.out.relock _ hl _, (Fr.drew (Fr.refl _ w)).trans (fr_two _ _ _ _ _)⟩

theorem Gh.more_own (g : Gh) (k : Int) (e j : Nat) (hj : j ≠ e) : (g.more k e).own j = g.own j := by simp [Gh.more, hj]

set_option maxRecDepth 100000 in
set_option maxHeartbeats 4000000 in
theorem Publish_yes (b : Nat) (g : Gh) (N : Nat) (a : Ab) (k : Int) (hk : In64 k) (v : ByteArray) (hy : a k = none) (hN : N < maxLen) (w : World) (h : Tb w b g N a) :
    Calls Try.prog 9 #[.pointer (some ⟨b, 0, none⟩), vI k, .string v] w fun e w' => e = .returned (.bool true) ∧ Tb w' b (g.more k w.heap.size) (N + 1) (upd a k v) ∧ Fr (fun j => g.own j ≠ 0) w w' := by
  have hs := strp_lt k
  have hT : Hd (Tb w.drew b g N a) := h.drew
  have hy' : Hd (a k = none) := hy
  have hk' : Hd (In64 k) := hk
  have hN' : Hd (N < maxLen) := hN
  clear h hy hk hN
  go_enter Try.func9, Try.ntmps9
  go_wp2_with fail
  go_region_with ((first
    | (go_at_call 23; refine (stripeOf_any k _).mono ?_; rintro _ _ ⟨rfl, rfl⟩)
    | (go_at_call 30; refine (publish_yes b g N a k hk'.out v hy'.out hN'.out _ (Nat.mul_comm _ _) _ hT.out).mono ?_; rintro _ w1 ⟨rfl, hT1, hF1⟩)))
  all_goals go_wp2_with fail
  all_goals go_ret
  all_goals exact ⟨rfl, hT1, (Fr.drew (Fr.refl _ w)).trans hF1⟩
end Go.Proofs.Ytocaepjdjhideaa

namespace Go.Proofs.Ytocaepjdjhideaa
open Go.RowKit (wrap32 wrap64)
open Go.MuLone
open Go.Maps (Keyed)
set_option linter.unusedVariables false
set_option linter.unusedSimpArgs false

/-- A table's cells when k of its maps are made. -/
def tabC (b k : Nat) : Array Value := ((List.range 24).map fun j => if j % 3 = 0 then Value.int .i32 0 else if j % 3 = 1 then .int .u32 0 else if j / 3 < k then .map (some (b + 1 + j / 3)) else .map none).toArray
theorem tabC_zero (b : Nat) : tabC b 0 = #[.int .i32 0, .int .u32 0, .map none, .int .i32 0, .int .u32 0, .map none, .int .i32 0, .int .u32 0, .map none, .int .i32 0, .int .u32 0, .map none, .int .i32 0, .int .u32 0, .map none, .int .i32 0, .int .u32 0, .map none, .int .i32 0, .int .u32 0, .map none, .int .i32 0, .int .u32 0, .map none] := rfl
theorem tabC_at (b k j : Nat) (hj : j < 24) : (tabC b k)[j]? = some (if j % 3 = 0 then Value.int .i32 0 else if j % 3 = 1 then .int .u32 0 else if j / 3 < k then .map (some (b + 1 + j / 3)) else .map none) := by
  unfold tabC
  rw [List.getElem?_toArray, List.getElem?_map, List.getElem?_range hj]
  rfl
theorem tabC_size (b k : Nat) : (tabC b k).size = 24 := by simp [tabC]
theorem tabC_step (b k : Nat) (hk : k < 8) : (tabC b k).setIfInBounds (k * 3 + 2) (.map (some (b + 1 + k))) = tabC b (k + 1) := by
  apply Array.ext_getElem?
  intro j
  rw [Array.getElem?_setIfInBounds]
  by_cases hj : j < 24
  · rw [tabC_at b (k + 1) j hj, tabC_at b k j hj, tabC_size]
    by_cases e : k * 3 + 2 = j
    · rw [if_pos e, if_pos (by omega), if_neg (by omega), if_neg (by omega), if_pos (by omega)]
      congr 4
      omega
    · rw [if_neg e]
      by_cases h0 : j % 3 = 0
      · rw [if_pos h0, if_pos h0]
      · rw [if_neg h0, if_neg h0]
        by_cases h1 : j % 3 = 1
        · rw [if_pos h1, if_pos h1]
        · rw [if_neg h1, if_neg h1]
          by_cases h2 : j / 3 < k
          · rw [if_pos h2, if_pos (by omega)]
          · rw [if_neg h2, if_neg (by omega)]
  · have n1 : (tabC b (k + 1))[j]? = none := Array.getElem?_eq_none (by rw [tabC_size]; omega)
    have n2 : (tabC b k)[j]? = none := Array.getElem?_eq_none (by rw [tabC_size]; omega)
    rw [n1, n2, tabC_size, if_neg (by omega)]

def gh0 (b : Nat) : Gh where
  own := fun j => if j = b then 1 else if b + 1 ≤ j ∧ j < b + 9 then 2 + (j - b - 1) else 0
  mb := fun i => b + 1 + i
  D := fun _ => .map []
  eb := fun _ => 0

/-- A table in the making: k of its maps are there. -/
structure Mk (w : World) (k : Nat) (wr : World) : Prop where
  fr : Fr (fun _ => False) w wr
  size : wr.heap.size = w.heap.size + 1 + k
  tab : wr.heap[w.heap.size]? = some (.cells (tabC w.heap.size k) 82)
  maps : ∀ i, i < k → wr.heap[w.heap.size + 1 + i]? = some (.map #[] 0)

theorem Mk.cell {w wr : World} {k : Nat} (h : Mk w k wr) (hk : k < 8) : (wr.alloc (.map #[] 0)).cell? ⟨w.heap.size, k * 3 + 2, none⟩ = some (.map none) ∧ (wr.alloc (.map #[] 0)).frozen? ⟨w.heap.size, k * 3 + 2, none⟩ = false := by
  have h1 : (wr.alloc (.map #[] 0)).heap[w.heap.size]? = some (.cells (tabC w.heap.size k) 82) := by
    rw [Go.RowKit.Below.heap_alloc wr _ _ (by have := h.size; omega)]; exact h.tab
  refine ⟨?_, frozen_of h1 _⟩
  rw [cell_of h1, tabC_at _ _ _ (by omega), if_neg (by omega), if_neg (by omega), if_neg (by omega)]

theorem Mk.step {w wr : World} {k : Nat} (h : Mk w k wr) (hk : k < 8) : Mk w (k + 1) ((wr.alloc (.map #[] 0)).setCell ⟨w.heap.size, k * 3 + 2, none⟩ (.map (some wr.heap.size))) where
  fr := (h.fr.alloc _).setCell _ _ (Or.inr (Nat.le_refl _))
  size := by simp; have := h.size; omega
  tab := by
    have h1 : (wr.alloc (.map #[] 0)).heap[w.heap.size]? = some (.cells (tabC w.heap.size k) 82) := by
      rw [Go.RowKit.Below.heap_alloc wr _ _ (by have := h.size; omega)]; exact h.tab
    rw [set_of h1, h.size, tabC_step _ _ hk]
  maps := fun i hi => by
    rw [Go.RowKit.Below.heap_setCell _ _ _ _ (by show w.heap.size + 1 + i ≠ w.heap.size; omega)]
    by_cases e : i < k
    · rw [Go.RowKit.Below.heap_alloc wr _ _ (by have := h.size; omega)]; exact h.maps i e
    · have : w.heap.size + 1 + i = wr.heap.size := by have := h.size; omega
      rw [this]; exact heap_alloc_last wr _

theorem Mk.done {w wr : World} (h : Mk w 8 wr) : Tb wr w.heap.size (gh0 w.heap.size) 0 (fun _ => none) where
  lock := fun i hi => by rw [cell_of h.tab, tabC_at _ _ _ (by omega), if_pos (by omega)]
  map := fun i hi => by
    rw [cell_of h.tab, tabC_at _ _ _ (by omega), if_neg (by omega), if_neg (by omega), if_pos (by omega)]
    show some (Value.map (some (w.heap.size + 1 + (3 * i + 2) / 3))) = some (.map (some (w.heap.size + 1 + i)))
    congr 4
    omega
  frz := fun o => frozen_of h.tab o
  own1 := by simp [gh0]
  own2 := fun i hi => by
    show (if w.heap.size + 1 + i = w.heap.size then 1 else if w.heap.size + 1 ≤ w.heap.size + 1 + i ∧ w.heap.size + 1 + i < w.heap.size + 9 then 2 + (w.heap.size + 1 + i - w.heap.size - 1) else 0) = 2 + i
    rw [if_neg (by omega), if_pos (by omega)]
    omega
  ownE := fun k v hk => by cases hk
  inj := fun k k' v v' hk => by cases hk
  lt := fun j hj => by
    have hs := h.size
    have hj' : (if j = w.heap.size then 1 else if w.heap.size + 1 ≤ j ∧ j < w.heap.size + 9 then 2 + (j - w.heap.size - 1) else 0) ≠ 0 := hj
    by_cases e : j = w.heap.size
    · omega
    · rw [if_neg e] at hj'
      by_cases e2 : w.heap.size + 1 ≤ j ∧ j < w.heap.size + 9
      · omega
      · rw [if_neg e2] at hj'; exact absurd rfl hj'
  maps := fun i hi => by
    have h1 := h.maps i hi
    have h2 := World.ownsMap_made (H := Unit) (w := w) Try.prog 3 Rp
    obtain ⟨es, clock, hb, F, hs, hD⟩ := h2
    rw [heap_alloc_last] at hb
    cases hb
    exact ⟨_, _, h1, F, hs, hD⟩
  wf := fun k v hk => by cases hk
  has := fun i k _ _ => by show Maps.has (.map []) _ = _; simp [Maps.has]
  atk := fun k v hk => by cases hk
  ent := fun k v hk => by cases hk

theorem gh0_old (b j : Nat) (hj : j < b) : (gh0 b).own j = 0 := by
  show (if j = b then 1 else if b + 1 ≤ j ∧ j < b + 9 then 2 + (j - b - 1) else 0) = 0
  rw [if_neg (by omega), if_neg (by omega)]

set_option maxRecDepth 100000 in
set_option maxHeartbeats 4000000 in
theorem new_any (w : World) : Calls Try.prog 10 #[] w fun e w' => e = .returned (.pointer (some ⟨w.heap.size, 0, none⟩)) ∧ Tb w' w.heap.size (gh0 w.heap.size) 0 (fun _ => none) ∧ Fr (fun _ => False) w w' := by
  have hmm := @Go.RowKit.run_makeMap Try.prog
  have h0 : Hd (Mk w 0 (w.alloc (.cells (tabC w.heap.size 0) 82))) := ⟨(Fr.refl _ w).alloc _, by simp, heap_alloc_last w _, fun i hi => by omega⟩
  rw [tabC_zero] at h0
  go_enter Try.func10, Try.ntmps10
  go_wp2_with fail
  go_loopw [5] (fun v wr => ∃ k : Nat, v = .int .i64 k ∧ k ≤ 8 ∧ Hd (Mk w k wr)) (fun v _ => match v with | .int _ q => 8 - q.toNat | _ => 0)
  case atStart => exact ⟨0, rfl, by omega, h0⟩
  case round =>
    obtain ⟨k, rfl, hk, HM⟩ := hrel
    by_cases hlt : k < 8
    · obtain ⟨c0, z0⟩ := HM.out.cell hlt
      have hst : Hd (Mk w (k + 1) ((wr.alloc (.map #[] 0)).setCell ⟨w.heap.size, k * 3 + 2, none⟩ (.map (some wr.heap.size)))) := HM.out.step hlt
      have hk3 : (k : Int) < 8 := by omega
      have hk0 : (0 : Int) ≤ k := by omega
      clear HM hk
      go_wp2_with fail
      refine ⟨⟨k + 1, by simp, by omega, hst⟩, by simp; omega⟩
    · have hdk : decide ((k : Int) < 8) = false := by simp; omega
      have e8 : Hd (k = 8) := by show k = 8; omega
      clear hlt hk
      go_wp2_with fail
      go_ret
      obtain rfl := e8.out
      exact ⟨rfl, HM.out.done, HM.out.fr⟩
end Go.Proofs.Ytocaepjdjhideaa

namespace Go.Proofs.Ytocaepjdjhideaa
open Go.RowKit (wrap32 wrap64)
open Go.MuLone
open Go.Maps (Keyed)
set_option linter.unusedVariables false
set_option linter.unusedSimpArgs false

def Apart (g g' : Gh) : Prop := ∀ j, g.own j ≠ 0 → g'.own j = 0
theorem Apart.symm {g g' : Gh} (h : Apart g g') : Apart g' g := fun j hj => by
  by_cases e : g.own j = 0
  · exact e
  · exact absurd (h j e) hj

theorem Fr.under {S : Nat → Prop} {w a b : World} (h : Fr (fun _ => False) w a) (k : Fr S a b) (hs : ∀ j, S j → w.heap.size ≤ j) : Fr (fun _ => False) w b :=
  ⟨k.os.trans h.os, k.tape.trans h.tape, k.output.trans h.output, Nat.le_trans h.size k.size, fun j hj _ => (k.block j (Nat.lt_of_lt_of_le hj h.size) (fun hS => by have := hs j hS; omega)).trans (h.block j hj (fun h => h))⟩
theorem gh0_from (b j : Nat) (hj : (gh0 b).own j ≠ 0) : b ≤ j := by
  rcases Nat.lt_or_ge j b with h | h
  · exact absurd (gh0_old b j h) hj
  · exact h

abbrev opV (kd ky : Int) (s : ByteArray) : Value := .agg #[vI kd, vI ky, .string s]

set_option maxRecDepth 100000 in
set_option maxHeartbeats 4000000 in
theorem nil_walk (kd ky k : Int) (s : ByteArray) (hk : In64 k) (hs : s.size ≤ 140737488351232) (w : World) :
    Calls Try.prog 3 #[opV kd ky s, vI k] w fun e w' => e = .returned (.bool true) ∧ Fr (fun _ => False) w w' := by
  have hk' : Hd (In64 k) := hk
  have c0 : (w.alloc (.cells #[vI kd, vI ky, .string s] 23)).cell? ⟨w.heap.size, 2, none⟩ = some (.string s) := by rw [World.cell?_alloc_new]; rfl
  have F0 : Hd (Fr (fun _ => False) w (w.alloc (.cells #[vI kd, vI ky, .string s] 23))) := (Fr.refl _ w).alloc _
  have hsz : w.heap.size < (w.alloc (.cells #[vI kd, vI ky, .string s] 23)).heap.size := by simp
  clear hk
  go_enter Try.func3, Try.ntmps3
  go_wp2_with fail
  obtain ⟨w0, e0⟩ : ∃ w0, w0 = w.alloc (.cells #[vI kd, vI ky, .string s] 23) := ⟨_, rfl⟩
  rw [← e0] at c0 F0 hsz ⊢
  obtain ⟨ob, eo⟩ : ∃ ob, ob = w.heap.size := ⟨_, rfl⟩
  rw [← eo] at c0 hsz ⊢
  clear e0 eo
  refine (lookup_nil k _).mono ?_
  rintro _ w0 ⟨rfl, rfl⟩
  go_wp2_with fail
  refine (snapshot_nil _).mono ?_
  rintro _ w0 ⟨rfl, rfl⟩
  go_wp2_with fail
  refine (publish_nil k s _).mono ?_
  rintro _ w0 ⟨rfl, rfl⟩
  go_wp2_with fail
  refine (new_any _).mono ?_
  rintro _ w1 ⟨rfl, hA, hF1⟩
  obtain ⟨ba, eba⟩ : ∃ ba, ba = w0.heap.size := ⟨_, rfl⟩
  rw [← eba] at hA ⊢
  have hob : ob < ba := by omega
  have c1 : w1.cell? ⟨ob, 2, none⟩ = some (.string s) := (hF1.cell hsz (fun h => h)).trans c0
  have F1 : Hd (Fr (fun _ => False) w w1) := F0.out.trans hF1
  have hA' : Hd (Tb w1 ba (gh0 ba) 0 (fun _ => none)) := hA
  have hob1 : Hd (ob < w1.heap.size ∧ ob < ba ∧ (∀ j, (gh0 ba).own j ≠ 0 → w0.heap.size ≤ j) ∧ w.heap.size ≤ ba) := ⟨Nat.lt_of_lt_of_le hsz hF1.size, hob, fun j hj => by
    rcases Nat.lt_or_ge j ba with h | h
    · exact absurd (gh0_old ba j h) hj
    · omega, by have := F0.out.size; omega⟩
  clear hA hF1 F0 hsz c0 eba hob
  go_wp2_with fail
  refine (new_any _).mono ?_
  rintro _ w2 ⟨rfl, hB, hF2⟩
  obtain ⟨bb, ebb⟩ : ∃ bb, bb = w1.heap.size := ⟨_, rfl⟩
  rw [← ebb] at hB ⊢
  have hA2 : Hd (Tb w2 ba (gh0 ba) 0 (fun _ => none)) := hA'.out.fr hF2 (fun _ _ h => h)
  have hAp : Hd (Apart (gh0 ba) (gh0 bb)) := fun j hj => gh0_old bb j (by have := hA'.out.lt j hj; omega)
  have c2 : w2.cell? ⟨ob, 2, none⟩ = some (.string s) := (hF2.cell hob1.out.1 (fun h => h)).trans c1
  have F2 : Hd (Fr (fun _ => False) w w2) := F1.out.trans hF2
  have hB2 : Hd (Tb w2 bb (gh0 bb) 0 (fun _ => none)) := hB
  have hob2 : Hd (ob < w2.heap.size ∧ ob < ba ∧ (gh0 ba).own ob = 0 ∧ (gh0 bb).own ob = 0 ∧ w.heap.size ≤ ba ∧ w.heap.size ≤ bb) := ⟨Nat.lt_of_lt_of_le hob1.out.1 hF2.size, hob1.out.2.1, gh0_old _ _ hob1.out.2.1, gh0_old _ _ (by have := hob1.out.1; omega), hob1.out.2.2.2, by have := F1.out.size; omega⟩
  clear hB hF2 F1 c1 ebb hA' hob1
  go_wp2_with fail
  refine (Publish_yes ba (gh0 ba) 0 (fun _ => none) k hk'.out s rfl (by decide) w2 hA2.out).mono ?_
  rintro _ w3 ⟨rfl, hA3, hF3⟩
  have hB3 : Hd (Tb w3 bb (gh0 bb) 0 (fun _ => none)) := hB2.out.fr hF3 (fun j hj h => h (hAp.out.symm j hj))
  have c3 : w3.cell? ⟨ob, 2, none⟩ = some (.string s) := (hF3.cell hob2.out.1 (fun h => h hob2.out.2.2.1)).trans c2
  have F3 : Hd (Fr (fun _ => False) w w3) := F2.out.under hF3 (fun j hj => by have := gh0_from ba j hj; have := hob2.out.2.2.2.2.1; omega)
  have hAp3 : Hd (Apart ((gh0 ba).more k w2.heap.size) (gh0 bb)) := fun j hj => by
    by_cases e : j = w2.heap.size
    · by_cases e2 : (gh0 bb).own j = 0
      · exact e2
      · exact absurd (hB2.out.lt j e2) (by omega)
    · exact hAp.out j (by rw [Gh.more_own _ _ _ _ e] at hj; exact hj)
  have hob3' : Hd (ob ≠ ba ∧ ob ≠ bb) := ⟨by have := hob2.out.2.1; omega, by intro e; have h1 := hob2.out.2.2.2.1; rw [e, hB2.out.own1] at h1; cases h1⟩
  have hob3 : Hd (ob < w3.heap.size ∧ w.heap.size ≤ ba ∧ w.heap.size ≤ bb) := ⟨Nat.lt_of_lt_of_le hob2.out.1 hF3.size, hob2.out.2.2.2.2⟩
  obtain ⟨ga, ega⟩ : ∃ ga, Hd (ga = (gh0 ba).more k w2.heap.size) := ⟨_, rfl⟩
  have hA3' : Hd (Tb w3 ba ga 1 (upd (fun _ => none) k s)) := by rw [ega.out]; exact hA3
  have hAp4 : Hd (Apart ga (gh0 bb)) := by rw [ega.out]; exact hAp3.out
  clear hA3 hF3 F2 c2 hA2 hB2 hAp hob2 hAp3
  go_wp2_with fail
  refine (Publish_no ba ga 1 (upd (fun _ => none) k s) k _ s (by simp [upd]) w3 hA3'.out).mono ?_
  rintro _ w4 ⟨rfl, hA4, hF4⟩
  have hoa : Hd (ga.own ba ≠ 0 ∧ (gh0 bb).own ba = 0 ∧ ga.own bb = 0) := ⟨by rw [hA4.own1]; decide, hAp4.out ba (by rw [hA4.own1]; decide), hAp4.out.symm bb (by rw [hB3.out.own1]; decide)⟩
  have hB4 : Hd (Tb w4 bb (gh0 bb) 0 (fun _ => none)) := hB3.out.fr hF4 (fun j hj h => by rw [h] at hj; exact hj hoa.out.2.1)
  have hne : Hd (ob ≠ ba ∧ ob ≠ bb) := hob3'
  have c4 : w4.cell? ⟨ob, 2, none⟩ = some (.string s) := (hF4.cell hob3.out.1 (fun h => hne.out.1 h)).trans c3
  have F4 : Hd (Fr (fun _ => False) w w4) := F3.out.under hF4 (fun j hj => by rw [hj]; exact hob3.out.2.1)
  have hob4 : Hd (ob < w4.heap.size) := Nat.lt_of_lt_of_le hob3.out.1 hF4.size
  have hA4' : Hd (Tb w4 ba ga 1 (upd (fun _ => none) k s)) := hA4
  clear hA4 hF4 F3 c3 hA3' hB3
  go_wp2_with fail
  refine (lookup_any bb (gh0 bb) 0 (fun _ => none) k hk'.out w4 hB4.out).mono ?_
  rintro _ w5 ⟨rfl, hB5, hF5⟩
  have hA5 : Hd (Tb w5 ba ga 1 (upd (fun _ => none) k s)) := hA4'.out.fr hF5 (fun j hj h => by rw [h] at hj; exact hj hoa.out.2.2)
  have hB5' : Hd (Tb w5 bb (gh0 bb) 0 (fun _ => none)) := hB5
  have c5 : w5.cell? ⟨ob, 2, none⟩ = some (.string s) := (hF5.cell hob4.out (fun h => hne.out.2 h)).trans c4
  have F5 : Hd (Fr (fun _ => False) w w5) := F4.out.under hF5 (fun j hj => by rw [hj]; exact hob3.out.2.2)
  have hob5 : Hd (ob < w5.heap.size) := Nat.lt_of_lt_of_le hob4.out hF5.size
  have l5 : lookB (fun _ => none) k = false := rfl
  clear hB5 hF5 F4 c4 hA4' hB4
  go_wp2_with fail
  refine (lookup_any ba ga 1 (upd (fun _ => none) k s) k hk'.out w5 hA5.out).mono ?_
  rintro _ w6 ⟨rfl, hA6, hF6⟩
  have hB6 : Hd (Tb w6 bb (gh0 bb) 0 (fun _ => none)) := hB5'.out.fr hF6 (fun j hj h => by rw [h] at hj; exact hj hoa.out.2.1)
  have c6 : w6.cell? ⟨ob, 2, none⟩ = some (.string s) := (hF6.cell hob5.out (fun h => hne.out.1 h)).trans c5
  have F6 : Hd (Fr (fun _ => False) w w6) := F5.out.under hF6 (fun j hj => by rw [hj]; exact hob3.out.2.1)
  have l6 : lookB (upd (fun _ => none) k s) k = true := by simp [lookB, upd]
  have l7 : lookS (upd (fun _ => none) k s) k = s := by simp [lookS, upd]
  clear hA6 hF6 F5 c5 hB5' hA5
  go_wp2_with fail
  refine (Publish_yes bb (gh0 bb) 0 (fun _ => none) k hk'.out ⟨#[]⟩ rfl (by decide) w6 hB6.out).mono ?_
  rintro _ w7 ⟨rfl, hB7, hF7⟩
  have F7 : Hd (Fr (fun _ => False) w w7) := F6.out.under hF7 (fun j hj => by have := gh0_from bb j hj; have := hob3.out.2.2; omega)
  clear hB7 hF7
  go_wp2_with fail
  go_ret
  exact ⟨rfl, F7.out⟩
end Go.Proofs.Ytocaepjdjhideaa
