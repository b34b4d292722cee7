import Derived.Test.YtmdlebolmhnhaabProg
import Derived.WalkKit
import Derived.WalkLawsBesides
import Derived.StillTailTactics
import Derived.Deep.RegionHeld3
import Derived.Maps.OwnSet
import Derived.Maps.AppendAt
namespace Go.Proofs.Ytmdlebolmhnhaab
open Go.RowKit (wrap32 wrap64)
open Go.Maps (Keyed)
set_option linter.unusedVariables false
set_option linter.unusedSimpArgs false

/-- A proposition that the walk doesn't see. -/
def Hd (p : Prop) : Prop := p
theorem Hd.out {p : Prop} (h : Hd p) : p := h

abbrev vI (n : Int) : Value := .int .i64 n

/-- Nothing has turned but the blocks of S, and new ones. -/
structure Fr (S : Nat → Prop) (w w' : World) : Prop where
  os : w'.os = w.os
  tape : w'.tape = w.tape
  output : w'.output = w.output
  size : w.heap.size ≤ w'.heap.size
  block : ∀ k, k < w.heap.size → ¬ S k → w'.heap[k]? = w.heap[k]?

theorem Fr.refl (S : Nat → Prop) (w : World) : Fr S w w := ⟨rfl, rfl, rfl, Nat.le_refl _, fun _ _ _ => rfl⟩
theorem Fr.trans {S : Nat → Prop} {a b c : World} (h : Fr S a b) (k : Fr S b c) : Fr S a c :=
  ⟨k.os.trans h.os, k.tape.trans h.tape, k.output.trans h.output, Nat.le_trans h.size k.size, fun j hj hS => (k.block j (Nat.lt_of_lt_of_le hj h.size) hS).trans (h.block j hj hS)⟩
theorem Fr.mono {S T : Nat → Prop} {a b : World} (h : Fr S a b) (hs : ∀ k, k < a.heap.size → S k → T k) : Fr T a b :=
  ⟨h.os, h.tape, h.output, h.size, fun k hk hT => h.block k hk (fun hS => hT (hs k hk hS))⟩
theorem Fr.drew {S : Nat → Prop} {a w : World} (h : Fr S a w) : Fr S a w.drew := ⟨h.os, h.tape, h.output, h.size, h.block⟩
theorem Fr.alloc {S : Nat → Prop} {a w : World} (h : Fr S a w) (o : Obj) : Fr S a (w.alloc o) :=
  ⟨h.os, h.tape, h.output, by simp; have := h.size; omega, fun k hk hS => (Go.RowKit.Below.heap_alloc w o k (Nat.lt_of_lt_of_le hk h.size)).trans (h.block k hk hS)⟩
theorem Fr.setCell {S : Nat → Prop} {a w : World} (h : Fr S a w) (p : Addr) (v : Value) (hp : S p.block ∨ a.heap.size ≤ p.block) : Fr S a (w.setCell p v) :=
  ⟨h.os, h.tape, h.output, by simpa using h.size, fun k hk hS => by
    rw [Go.RowKit.Below.heap_setCell w p v k (by intro e; subst e; rcases hp with hp | hp; exact hS hp; omega)]; exact h.block k hk hS⟩
theorem Fr.cell {S : Nat → Prop} {w w' : World} (h : Fr S w w') {k o : Nat} (hk : k < w.heap.size) (hS : ¬ S k) : w'.cell? ⟨k, o, none⟩ = w.cell? ⟨k, o, none⟩ := World.cell?_of_block (h.block k hk hS)
theorem grown_fr {w w' : World} {row : Option Nat} (h : w.grownBy w' row) : Fr (fun k => row = some k) w w' :=
  ⟨h.os, h.tape, h.output, h.size, fun k hk hS => h.block k hk (fun e => hS e.symm)⟩

theorem ownsRow_fr {S : Nat → Prop} {w w' : World} {B e size n : Nat} {v : Value} {xs : List Value} (h : w.ownsRow B e size v n xs) (f : Fr S w w') (hS : ∀ g, v.ownBlock = some g → ¬ S g) : w'.ownsRow B e size v n xs := by
  refine ⟨h.1, ?_⟩
  rcases h.2 with h2 | ⟨g, cap, cur, rfl, h3, h4, h5⟩
  · exact Or.inl h2
  · exact Or.inr ⟨g, cap, cur, rfl, h3, by rw [f.block g ((Array.getElem?_eq_some_iff.1 h4).1) (hS g rfl)]; exact h4, h5⟩

theorem ownsMap_fr {H : Type} {S : Nat → Prop} {w w' : World} {P : Program} {k : TypeId} {R : Value → Option (DataW H × List MemPlace)} {b n : Nat} {D : DataW H} (h : w.ownsMap P k R b n D) (f : Fr S w w') (hS : ¬ S b) : w'.ownsMap P k R b n D := by
  have hlt := h.lt
  obtain ⟨es, clock, hb, F, hs, hD⟩ := h
  exact ⟨es, clock, (f.block b hlt hS).trans hb, F, hs, hD⟩

theorem mixed : Try.prog.follows .mixedOrders = true := by kernel_rfl
theorem addr_add (g j : Nat) : (⟨g, 0, none⟩ : Addr).add j = ⟨g, j, none⟩ := by unfold Addr.add; split <;> simp_all
theorem heap_alloc_last (w : World) (o : Obj) : (w.alloc o).heap[w.heap.size]? = some o := (MapKept.heap_alloc w o).1
theorem heap_lt {w : World} {k : Nat} {o : Obj} (h : w.heap[k]? = some o) : k < w.heap.size := (Array.getElem?_eq_some_iff.1 h).1
theorem cell_of {w : World} {k : Nat} {cs : Array Value} {t : TypeId} (h : w.heap[k]? = some (.cells cs t)) (o : Nat) : w.cell? ⟨k, o, none⟩ = cs[o]? := by
  unfold World.cell?; rw [h]; simp
theorem frozen_of {w : World} {k : Nat} {cs : Array Value} {t : TypeId} (h : w.heap[k]? = some (.cells cs t)) (o : Nat) : w.frozen? ⟨k, o, none⟩ = false := by
  unfold World.frozen?; rw [h]; simp
theorem set_of {w : World} {k : Nat} {cs : Array Value} {t : TypeId} (h : w.heap[k]? = some (.cells cs t)) (o : Nat) (v : Value) : (w.setCell ⟨k, o, none⟩ v).heap[k]? = some (.cells (cs.setIfInBounds o v) t) := by
  unfold World.setCell
  simp only [Array.getElem?_modify]
  rw [if_pos trivial, h]
  rfl

/-! ### what a memory is -/
abbrev Val := Int × Int
abbrev vv (x : Val) : Value := .agg #[.int .i64 x.1, .int .i64 x.2]
/-- Values, cell by cell. -/
def flat : List Val → List Value
  | [] => []
  | x :: r => .int .i64 x.1 :: .int .i64 x.2 :: flat r

theorem flat_length : ∀ l : List Val, (flat l).length = 2 * l.length
  | [] => rfl
  | x :: r => by simp [flat, flat_length r]; omega
theorem flat_fst : ∀ (l : List Val) (i : Nat) (h : i < l.length), (flat l)[2 * i]? = some (.int .i64 l[i].1)
  | x :: r, 0, _ => rfl
  | x :: r, i + 1, h => by
    have := flat_fst r i (by simpa using h)
    rw [show 2 * (i + 1) = 2 * i + 1 + 1 by omega]
    simpa [flat] using this
theorem flat_snd : ∀ (l : List Val) (i : Nat) (h : i < l.length), (flat l)[2 * i + 1]? = some (.int .i64 l[i].2)
  | x :: r, 0, _ => rfl
  | x :: r, i + 1, h => by
    have := flat_snd r i (by simpa using h)
    rw [show 2 * (i + 1) + 1 = 2 * i + 1 + 1 + 1 by omega]
    simpa [flat] using this
theorem flat_set : ∀ (l : List Val) (i : Nat) (x : Val), i < l.length → ((flat l).set (2 * i) (.int .i64 x.1)).set (2 * i + 1) (.int .i64 x.2) = flat (l.set i x)
  | y :: r, 0, x, _ => rfl
  | y :: r, i + 1, x, h => by
    have := flat_set r i x (by simpa using h)
    rw [show 2 * (i + 1) = 2 * i + 1 + 1 by omega]
    simpa [flat] using this

/-- What the document tells of a memory: the globals; how many cells were made; the fields of those that are there; by frame what was made when it began; the cells that go with their frames. -/
structure Abs where
  gl : List Val
  made : Nat
  cells : Nat → Option (List Val)
  frs : List Nat
  pss : List Nat

/-- Where it lies. -/
structure Gh where
  own : Nat → Nat
  gb : Nat
  tb : Nat
  D : DataW Unit
  fr : Value
  ps : Value
  blk : Nat → Nat

/-- How a cell's fields stand in the map: by their block, and how many. -/
def Rc : Value → Option (DataW Unit × List MemPlace)
  | .slice (some ⟨g, 0, none⟩) n c => if n = c then some (.agg [.lit (.int .i64 g), .lit (.int .i64 n)], []) else none
  | .slice none 0 0 => some (.nil, [])
  | _ => none

def cellD (g n : Nat) : DataW Unit := .agg [.lit (.int .i64 g), .lit (.int .i64 n)]

theorem Rc_inv {v : Value} {g n : Nat} {ps : List MemPlace} (h : Rc v = some (cellD g n, ps)) : v = .slice (some ⟨g, 0, none⟩) n n := by
  unfold Rc at h
  split at h
  · split at h
    · rename_i e
      subst e
      simp [cellD] at h
      obtain ⟨⟨h1, h2⟩, -⟩ := h
      have e1 := Int.ofNat.inj h1
      have e2 := Int.ofNat.inj h2
      subst e1; subst e2
      rfl
    · cases h
  · simp [cellD] at h
  · cases h
theorem Rc_nil {v : Value} {ps : List MemPlace} (h : Rc v = some (.nil, ps)) : v = .slice none 0 0 := by
  unfold Rc at h
  split at h
  · split at h
    · simp at h
    · cases h
  · rfl
  · cases h

def memC (g : Gh) (a : Abs) : Array Value := #[.slice (some ⟨g.gb, 0, none⟩) a.gl.length a.gl.length, vI a.made, .map (some g.tb), g.fr, g.ps]

structure Mem (w : World) (b : Nat) (g : Gh) (a : Abs) : Prop where
  blk0 : w.heap[b]? = some (.cells (memC g a) 60)
  glob : w.heap[g.gb]? = some (.cells (flat a.gl).toArray 28)
  map : w.ownsMap Try.prog 3 Rc g.tb a.made g.D
  has : ∀ i : Nat, Maps.has g.D (.int .i64 i) = (a.cells i).isSome
  atk : ∀ (i : Nat) l, a.cells i = some l → g.D.atKey (.int .i64 i) .nil = cellD (g.blk i) l.length
  cell : ∀ (i : Nat) l, a.cells i = some l → w.heap[g.blk i]? = some (.cells (flat l).toArray 28) ∧ g.own (g.blk i) = 6 + i ∧ 1 ≤ i ∧ i ≤ a.made ∧ l.length ≤ 8
  frs : w.ownsRow 0 3 1 g.fr a.frs.length (a.frs.map fun n : Nat => vI n)
  pss : w.ownsRow 0 3 1 g.ps a.pss.length (a.pss.map fun n : Nat => vI n)
  ob : g.own b = 1
  og : g.own g.gb = 2
  ot : g.own g.tb = 3
  ofr : ∀ j, g.fr.ownBlock = some j → g.own j = 4
  ops : ∀ j, g.ps.ownBlock = some j → g.own j = 5
  olt : ∀ k, g.own k ≠ 0 → k < w.heap.size
  glen : a.gl.length ≤ 16
  pos : ∀ x : Int, Maps.has g.D (.int .i64 x) = true → 0 ≤ x

theorem Mem.fr {S : Nat → Prop} {w w' : World} {b : Nat} {g : Gh} {a : Abs} (h : Mem w b g a) (f : Fr S w w') (hS : ∀ k, g.own k ≠ 0 → ¬ S k) : Mem w' b g a where
  blk0 := by rw [f.block b (heap_lt h.blk0) (hS b (by rw [h.ob]; decide))]; exact h.blk0
  glob := by rw [f.block _ (heap_lt h.glob) (hS _ (by rw [h.og]; decide))]; exact h.glob
  map := ownsMap_fr h.map f (hS _ (by rw [h.ot]; decide))
  has := h.has
  atk := h.atk
  cell := fun i l e => by
    obtain ⟨h1, h2, h3⟩ := h.cell i l e
    exact ⟨by rw [f.block _ (heap_lt h1) (hS _ (by rw [h2]; omega))]; exact h1, h2, h3⟩
  frs := ownsRow_fr h.frs f (fun j e => hS j (by rw [h.ofr j e]; decide))
  pss := ownsRow_fr h.pss f (fun j e => hS j (by rw [h.ops j e]; decide))
  ob := h.ob
  og := h.og
  ot := h.ot
  ofr := h.ofr
  ops := h.ops
  olt := fun k hk => Nat.lt_of_lt_of_le (h.olt k hk) f.size
  glen := h.glen
  pos := h.pos

theorem Mem.keep {w w' : World} {b : Nat} {g : Gh} {a : Abs} (h : Mem w b g a) (f : Fr (fun _ => False) w w') : Mem w' b g a := h.fr f (fun _ _ h => h)
theorem Mem.alloc {w : World} {b : Nat} {g : Gh} {a : Abs} (h : Mem w b g a) (o : Obj) : Mem (w.alloc o) b g a := h.keep (Fr.alloc (Fr.refl _ w) o)
theorem Mem.drew {w : World} {b : Nat} {g : Gh} {a : Abs} (h : Mem w b g a) : Mem w.drew b g a := h.keep (Fr.drew (Fr.refl _ w))

theorem Mem.facts {w : World} {b : Nat} {g : Gh} {a : Abs} (h : Mem w b g a) :
    w.cell? ⟨b, 0, none⟩ = some (.slice (some ⟨g.gb, 0, none⟩) a.gl.length a.gl.length) ∧ w.cell? ⟨b, 1, none⟩ = some (vI a.made) ∧ w.cell? ⟨b, 2, none⟩ = some (.map (some g.tb)) ∧ w.cell? ⟨b, 3, none⟩ = some g.fr ∧ w.cell? ⟨b, 4, none⟩ = some g.ps := by
  simp only [cell_of h.blk0]
  exact ⟨rfl, rfl, rfl, rfl, rfl⟩
theorem Mem.lt {w : World} {b : Nat} {g : Gh} {a : Abs} (h : Mem w b g a) : b < w.heap.size := heap_lt h.blk0

/-! ### the small functions -/
theorem tmod_is (k : Int) (n : Nat) : k % n = k.tmod n % n := by
  have h1 := Int.tmod_add_mul_tdiv k n
  conv => lhs; rw [← h1]
  exact Int.add_mul_emod_self_left _ _ _
theorem tmod_neg (k : Int) (n : Nat) (hn : 0 < n) (hn' : n ≤ 1000000) (h : k.tmod n < 0) : wrap64 (k.tmod n + n) = k % n := by
  have h2 : -(n : Int) < k.tmod n := by
    have := Int.tmod_lt_of_pos (-k) (show (0 : Int) < n by omega)
    rw [Int.neg_tmod] at this
    omega
  rw [show wrap64 (k.tmod n + n) = k.tmod n + n by unfold wrap64; omega, tmod_is, ← Int.add_emod_right, Int.emod_eq_of_lt (by omega) (by omega)]
theorem tmod_nonneg (k : Int) (n : Nat) (hn : 0 < n) (h : 0 ≤ k.tmod n) : k.tmod n = k % n := by
  have h2 := Int.tmod_lt_of_pos k (show (0 : Int) < n by omega)
  rw [tmod_is, Int.emod_eq_of_lt h h2]

theorem wasMade_any (b : Nat) (made : Nat) (n : Int) (w : World) (hc : w.cell? ⟨b, 1, none⟩ = some (vI made)) :
    Calls Try.prog 44 #[.pointer (some ⟨b, 0, none⟩), .int .i64 n] w fun e w' => e = .returned (.bool (decide (1 ≤ n ∧ n ≤ made))) ∧ w' = w := by
  by_cases h : 1 ≤ n
  · have h' : decide (1 ≤ n) = true := by simpa using h
    go_enter Try.func44, Try.ntmps44
    go_wp2
    go_ret
    exact ⟨by simp [h], rfl⟩
  · have h' : decide (1 ≤ n) = false := by simpa using h
    go_enter Try.func44, Try.ntmps44
    go_wp2
    go_ret
    exact ⟨by simp [h], rfl⟩

end Go.Proofs.Ytmdlebolmhnhaab

namespace Go.Proofs.Ytmdlebolmhnhaab
open Go.RowKit (wrap32 wrap64)
open Go.Maps (Keyed)
set_option linter.unusedVariables false
set_option linter.unusedSimpArgs false

/-- Is a value right for a memory that has made so many cells? -/
def rightB (made : Nat) (v : Val) : Bool :=
  if v.1 = 0 then decide (v.2 = 0) else if v.1 = 1 then true else if v.1 = 2 then decide (1 ≤ v.2 ∧ v.2 ≤ made) else false

theorem eqb_true {a b : Int} (h : a = b) : (a == b) = true := by simpa using h
theorem eqb_false {a b : Int} (h : ¬ a = b) : (a == b) = false := by simpa using h

set_option maxHeartbeats 1000000 in
theorem right_any (b : Nat) (made : Nat) (v : Val) (w : World) (hc : w.cell? ⟨b, 1, none⟩ = some (vI made)) (hb : b < w.heap.size) :
    Calls Try.prog 25 #[.pointer (some ⟨b, 0, none⟩), vv v] w fun e w' => e = .returned (.bool (rightB made v)) ∧ w' = w.alloc (.cells #[vI v.1, vI v.2] 28) := by
  obtain ⟨k, n⟩ := v
  have hc' : (w.alloc (.cells #[vI k, vI n] 28)).cell? ⟨b, 1, none⟩ = some (vI made) := by
    rw [World.cell?_of_block (Go.RowKit.Below.heap_alloc w _ b hb)]; exact hc
  by_cases h0 : k = 0
  · subst h0
    go_enter Try.func25, Try.ntmps25
    go_wp2
    go_ret
    exact ⟨by simp only [rightB, if_true]; exact congrArg (fun x => Ending.returned (.bool x)) (Bool.eq_iff_iff.2 (by simp)), rfl⟩
  by_cases h1 : k = 1
  · subst h1
    go_enter Try.func25, Try.ntmps25
    go_wp2
    go_ret
    exact ⟨by simp [rightB], rfl⟩
  by_cases h2 : k = 2
  · subst h2
    go_enter Try.func25, Try.ntmps25
    go_wp2_with fail
    refine (wasMade_any b made n _ hc').mono ?_
    rintro e w' ⟨rfl, rfl⟩
    go_wp2_with fail
    go_ret
    exact ⟨by simp [rightB], rfl⟩
  · have b0 := eqb_false h0
    have b1 := eqb_false h1
    have b2 := eqb_false h2
    go_enter Try.func25, Try.ntmps25
    go_wp2
    go_ret
    exact ⟨by simp [rightB, h0, h1, h2], rfl⟩

theorem hasGlobal_any (b : Nat) (a : Option Addr) (len : Nat) (n : Int) (w : World) (hc : w.cell? ⟨b, 0, none⟩ = some (.slice a len len)) :
    Calls Try.prog 43 #[.pointer (some ⟨b, 0, none⟩), .int .i64 n] w fun e w' => e = .returned (.bool (decide (0 ≤ n ∧ n < len))) ∧ w' = w := by
  by_cases h : 0 ≤ n
  · have h' : decide (0 ≤ n) = true := by simpa using h
    go_enter Try.func43, Try.ntmps43
    go_wp2
    go_ret
    exact ⟨by simp [h], rfl⟩
  · have h' : decide (0 ≤ n) = false := by simpa using h
    go_enter Try.func43, Try.ntmps43
    go_wp2
    go_ret
    exact ⟨by simp [h], rfl⟩

end Go.Proofs.Ytmdlebolmhnhaab
