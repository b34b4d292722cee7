import Derived.Test.YtkkfiipnpdlkeaaQA0
import Derived.Conc.MuLone
import Derived.WalkKit
import Derived.WalkLawsBesides
import Derived.StillTailTactics
import Derived.Deep.RegionHeld3
import Derived.BigQuiet
import Derived.RegionCalls
import Derived.WalkSpells
import Derived.Maps.AppendAt
import Derived.Laws.LoneSync
import Derived.Laws.CopyOwn
import Derived.Laws.MakeOwn
import Derived.Deep.RegionLaw
namespace Go.Proofs.Ytkkfiipnpdlkeaa
open Go.RowKit (wrap32 wrap64)
open Go.MuLone
set_option linter.unusedVariables false
set_option linter.unusedSimpArgs false

/-- A proposition that the walk doesn't see. -/
def Hd (p : Prop) : Prop := p
theorem Hd.out {p : Prop} (h : Hd p) : p := h

abbrev vI (n : Int) : Value := .int .i64 n
abbrev In64 (k : Int) : Prop := -9223372036854775808 ≤ k ∧ k ≤ 9223372036854775807

/-- Nothing has turned but the blocks of S, and new ones. -/
structure Fr (S : Nat → Prop) (w w' : World) : Prop where
  os : w'.os = w.os
  tape : w'.tape = w.tape
  output : w'.output = w.output
  size : w.heap.size ≤ w'.heap.size
  block : ∀ k, k < w.heap.size → ¬ S k → w'.heap[k]? = w.heap[k]?

theorem Fr.refl (S : Nat → Prop) (w : World) : Fr S w w := ⟨rfl, rfl, rfl, Nat.le_refl _, fun _ _ _ => rfl⟩
theorem Fr.trans {S : Nat → Prop} {a b c : World} (h : Fr S a b) (k : Fr S b c) : Fr S a c :=
  ⟨k.os.trans h.os, k.tape.trans h.tape, k.output.trans h.output, Nat.le_trans h.size k.size, fun j hj hS => (k.block j (Nat.lt_of_lt_of_le hj h.size) hS).trans (h.block j hj hS)⟩
theorem Fr.mono {S T : Nat → Prop} {a b : World} (h : Fr S a b) (hs : ∀ k, k < a.heap.size → S k → T k) : Fr T a b :=
  ⟨h.os, h.tape, h.output, h.size, fun k hk hT => h.block k hk (fun hS => hT (hs k hk hS))⟩
theorem Fr.drew {S : Nat → Prop} {a w : World} (h : Fr S a w) : Fr S a w.drew := ⟨h.os, h.tape, h.output, h.size, h.block⟩
theorem Fr.alloc {S : Nat → Prop} {a w : World} (h : Fr S a w) (o : Obj) : Fr S a (w.alloc o) :=
  ⟨h.os, h.tape, h.output, by simp; have := h.size; omega, fun k hk hS => (Go.RowKit.Below.heap_alloc w o k (Nat.lt_of_lt_of_le hk h.size)).trans (h.block k hk hS)⟩
theorem Fr.setCell {S : Nat → Prop} {a w : World} (h : Fr S a w) (p : Addr) (v : Value) (hp : S p.block ∨ a.heap.size ≤ p.block) : Fr S a (w.setCell p v) :=
  ⟨h.os, h.tape, h.output, by simpa using h.size, fun k hk hS => by
    rw [Go.RowKit.Below.heap_setCell w p v k (by intro e; subst e; rcases hp with hp | hp; exact hS hp; omega)]; exact h.block k hk hS⟩
theorem Fr.cell {S : Nat → Prop} {w w' : World} (h : Fr S w w') {k o : Nat} (hk : k < w.heap.size) (hS : ¬ S k) : w'.cell? ⟨k, o, none⟩ = w.cell? ⟨k, o, none⟩ := World.cell?_of_block (h.block k hk hS)
theorem Fr.frozen {S : Nat → Prop} {w w' : World} (h : Fr S w w') {k o : Nat} (hk : k < w.heap.size) (hS : ¬ S k) : w'.frozen? ⟨k, o, none⟩ = w.frozen? ⟨k, o, none⟩ := by
  unfold World.frozen?; simp only [h.block k hk hS]
theorem grown_fr {w w' : World} {row : Option Nat} (h : w.grownBy w' row) : Fr (fun k => row = some k) w w' :=
  ⟨h.os, h.tape, h.output, h.size, fun k hk hS => h.block k hk (fun e => hS e.symm)⟩

theorem ownsRow_fr {S : Nat → Prop} {w w' : World} {B e size n : Nat} {v : Value} {xs : List Value} (h : w.ownsRow B e size v n xs) (f : Fr S w w') (hS : ∀ g, v.ownBlock = some g → ¬ S g) : w'.ownsRow B e size v n xs := by
  refine ⟨h.1, ?_⟩
  rcases h.2 with h2 | ⟨g, cap, cur, rfl, h3, h4, h5⟩
  · exact Or.inl h2
  · exact Or.inr ⟨g, cap, cur, rfl, h3, by rw [f.block g ((Array.getElem?_eq_some_iff.1 h4).1) (hS g rfl)]; exact h4, h5⟩

theorem mixed : Try.prog.follows .mixedOrders = true := by kernel_rfl
theorem heap_alloc_last (w : World) (o : Obj) : (w.alloc o).heap[w.heap.size]? = some o := (MapKept.heap_alloc w o).1
theorem heap_lt {w : World} {k : Nat} {o : Obj} (h : w.heap[k]? = some o) : k < w.heap.size := (Array.getElem?_eq_some_iff.1 h).1
theorem cell_of {w : World} {k : Nat} {cs : Array Value} {t : TypeId} (h : w.heap[k]? = some (.cells cs t)) (o : Nat) : w.cell? ⟨k, o, none⟩ = cs[o]? := by
  unfold World.cell?; rw [h]; simp
theorem frozen_of {w : World} {k : Nat} {cs : Array Value} {t : TypeId} (h : w.heap[k]? = some (.cells cs t)) (o : Nat) : w.frozen? ⟨k, o, none⟩ = false := by
  unfold World.frozen?; rw [h]; simp
theorem set_of {w : World} {k : Nat} {cs : Array Value} {t : TypeId} (h : w.heap[k]? = some (.cells cs t)) (o : Nat) (v : Value) : (w.setCell ⟨k, o, none⟩ v).heap[k]? = some (.cells (cs.setIfInBounds o v) t) := by
  unfold World.setCell
  simp only [Array.getElem?_modify]
  rw [if_pos trivial, h]
  rfl


theorem w64 {n : Int} (h1 : -9223372036854775808 ≤ n) (h2 : n ≤ 9223372036854775807) : wrap64 n = n := by unfold wrap64; omega
theorem i64w {n : Int} (h1 : -9223372036854775808 ≤ n) (h2 : n ≤ 9223372036854775807) : IntKind.i64.wrap n = n := by
  rw [IntKind.wrap_i64 n]; omega

/-! ### what a deque is -/

/-- The room as a value. -/
def roomV (g : Nat) (rm : List Int) : Value := if rm = [] then .slice none 0 0 else .slice (some ⟨g, 0, none⟩) rm.length rm.length
theorem roomV_nil (g : Nat) : roomV g [] = .slice none 0 0 := rfl
theorem roomV_some {g : Nat} {rm : List Int} (h : rm ≠ []) : roomV g rm = .slice (some ⟨g, 0, none⟩) rm.length rm.length := if_neg h

/-- A deque at block b: its lock l, its room rm at block g, where the far end lies, its tasks from the far end on. -/
structure Dq (w : World) (b : Nat) (l : Int) (g : Nat) (rm : List Int) (far : Nat) (xs : List Int) : Prop where
  obj : w.heap[b]? = some (.cells #[.int .i32 l, .int .u32 0, roomV g rm, vI far, vI xs.length] 53)
  row : rm ≠ [] → w.heap[g]? = some (.cells (rm.map vI).toArray 3)
  no : rm = [] → g = b ∧ far = 0
  ne : rm ≠ [] → g ≠ b
  flt : rm ≠ [] → far < rm.length
  len : xs.length ≤ rm.length
  has : ∀ i, i < xs.length → rm[(far + i) % rm.length]? = xs[i]?

theorem Dq.blt {w : World} {b : Nat} {l : Int} {g : Nat} {rm : List Int} {far : Nat} {xs : List Int} (h : Dq w b l g rm far xs) : b < w.heap.size := heap_lt h.obj
theorem Dq.glt {w : World} {b : Nat} {l : Int} {g : Nat} {rm : List Int} {far : Nat} {xs : List Int} (h : Dq w b l g rm far xs) : g < w.heap.size := by
  by_cases e : rm = []
  · rw [(h.no e).1]; exact h.blt
  · exact heap_lt (h.row e)
theorem Dq.fr {S : Nat → Prop} {w w' : World} {b : Nat} {l : Int} {g : Nat} {rm : List Int} {far : Nat} {xs : List Int} (h : Dq w b l g rm far xs) (f : Fr S w w') (hb : ¬ S b) (hg : ¬ S g) : Dq w' b l g rm far xs :=
  ⟨(f.block b h.blt hb).trans h.obj, fun e => (f.block g h.glt hg).trans (h.row e), h.no, h.ne, h.flt, h.len, h.has⟩
theorem Dq.drew {w : World} {b : Nat} {l : Int} {g : Nat} {rm : List Int} {far : Nat} {xs : List Int} (h : Dq w b l g rm far xs) : Dq w.drew b l g rm far xs := h.fr (Fr.drew (Fr.refl (fun _ => False) w)) (fun h => h) (fun h => h)

/-- The lock's cell turns. -/
theorem Dq.lock {w : World} {b : Nat} {l : Int} {g : Nat} {rm : List Int} {far : Nat} {xs : List Int} (h : Dq w b l g rm far xs) (l' : Int) : Dq (w.setCell ⟨b, 0, none⟩ (.int .i32 l')) b l' g rm far xs :=
  ⟨set_of h.obj 0 _, fun e => by rw [Go.RowKit.Below.heap_setCell _ _ _ _ (h.ne e)]; exact h.row e, h.no, h.ne, h.flt, h.len, h.has⟩

theorem mod_far {far i n : Nat} (hf : far < n) (hi : i ≤ n) : (far + i) % n = if far + i < n then far + i else far + i - n := by
  split
  · exact Nat.mod_eq_of_lt (by assumption)
  · rw [Nat.mod_eq_sub_mod (by omega)]; exact Nat.mod_eq_of_lt (by omega)
theorem mod_ne {far i j n : Nat} (hf : far < n) (hi : i < n) (hj : j < n) (h : i ≠ j) : (far + i) % n ≠ (far + j) % n := by
  rw [mod_far hf (by omega), mod_far hf (by omega)]
  split <;> split <;> omega

theorem ints_set (rm : List Int) (k : Nat) (x : Int) : (rm.map vI).toArray.setIfInBounds k (vI x) = ((rm.set k x).map vI).toArray := by
  rw [List.setIfInBounds_toArray, List.map_set]

/-- The near one goes. -/
theorem Dq.popped {w : World} {b : Nat} {l : Int} {g : Nat} {rm : List Int} {far : Nat} {ys : List Int} {x : Int} (h : Dq w b l g rm far (ys ++ [x])) :
    Dq ((w.setCell ⟨b, 4, none⟩ (vI ys.length)).drew.setCell ⟨g, (far + ys.length) % rm.length, none⟩ (vI 0)) b l g (rm.set ((far + ys.length) % rm.length) 0) far ys := by
  have hl := h.len
  simp only [List.length_append, List.length_singleton] at hl
  have hne : rm ≠ [] := by rintro rfl; simp at hl
  have hf := h.flt hne
  refine ⟨?_, fun _ => ?_, fun e => ?_, fun _ => h.ne hne, fun _ => by simpa using hf, by simp; omega, fun i hi => ?_⟩
  · rw [Go.RowKit.Below.heap_setCell _ _ _ _ (by show b ≠ g; exact fun e => h.ne hne e.symm)]
    show (w.setCell ⟨b, 4, none⟩ (vI ys.length)).heap[b]? = _
    rw [set_of h.obj 4]
    simp [roomV, hne]
  · have : (w.setCell ⟨b, 4, none⟩ (vI ys.length)).drew.heap[g]? = some (.cells (rm.map vI).toArray 3) := by
      show (w.setCell ⟨b, 4, none⟩ (vI ys.length)).heap[g]? = _
      rw [Go.RowKit.Below.heap_setCell _ _ _ _ (h.ne hne)]
      exact h.row hne
    rw [set_of this, ints_set]
  · simp at e; exact absurd e hne
  · rw [List.length_set, List.getElem?_set_ne (mod_ne hf (by omega) (by omega) (by omega)), h.has i (by simp; omega), List.getElem?_append_left hi]

/-- The far one goes. -/
theorem Dq.stolen {w : World} {b : Nat} {l : Int} {g : Nat} {rm : List Int} {far : Nat} {ys : List Int} {x : Int} (h : Dq w b l g rm far (x :: ys)) :
    Dq (((w.setCell ⟨g, far, none⟩ (vI 0)).drew.setCell ⟨b, 3, none⟩ (vI ((far + 1) % rm.length : Nat))).setCell ⟨b, 4, none⟩ (vI ys.length)) b l g (rm.set far 0) ((far + 1) % rm.length) ys := by
  have hl := h.len
  simp only [List.length_cons] at hl
  have hne : rm ≠ [] := by rintro rfl; simp at hl
  have hf := h.flt hne
  have hgb := h.ne hne
  have hs : (w.setCell ⟨g, far, none⟩ (vI 0)).drew.heap[b]? = some (.cells #[.int .i32 l, .int .u32 0, roomV g rm, vI far, vI (x :: ys).length] 53) := by
    show (w.setCell ⟨g, far, none⟩ (vI 0)).heap[b]? = _
    rw [Go.RowKit.Below.heap_setCell _ _ _ _ (by show b ≠ g; exact fun e => hgb e.symm)]
    exact h.obj
  refine ⟨?_, fun _ => ?_, fun e => ?_, fun _ => hgb, fun _ => by rw [List.length_set]; exact Nat.mod_lt _ (by omega), by simp; omega, fun i hi => ?_⟩
  · rw [set_of (set_of hs 3 _) 4]
    simp [roomV, hne]
  · rw [Go.RowKit.Below.heap_setCell _ _ _ _ hgb, Go.RowKit.Below.heap_setCell _ _ _ _ hgb]
    show (w.setCell ⟨g, far, none⟩ (vI 0)).heap[g]? = _
    rw [set_of (h.row hne), ints_set]
  · simp at e; exact absurd e hne
  · rw [List.length_set, Nat.mod_add_mod, Nat.add_assoc, Nat.add_comm 1 i]
    rw [List.getElem?_set_ne ?_, h.has (i + 1) (by simp; omega), List.getElem?_cons_succ]
    have := mod_ne (i := 0) (j := i + 1) hf (by omega) (by omega) (by omega)
    rwa [Nat.add_zero, Nat.mod_eq_of_lt hf] at this

/-- One comes, where there is room. -/
theorem Dq.pushed {w : World} {b : Nat} {l : Int} {g : Nat} {rm : List Int} {far : Nat} {xs : List Int} (x : Int) (h : Dq w b l g rm far xs) (hl : xs.length < rm.length) :
    Dq ((w.setCell ⟨g, (far + xs.length) % rm.length, none⟩ (vI x)).setCell ⟨b, 4, none⟩ (vI (xs.length + 1 : Nat))) b l g (rm.set ((far + xs.length) % rm.length) x) far (xs ++ [x]) := by
  have hne : rm ≠ [] := by rintro rfl; simp at hl
  have hf := h.flt hne
  have hgb := h.ne hne
  refine ⟨?_, fun _ => ?_, fun e => ?_, fun _ => hgb, fun _ => by simpa using hf, by simp; omega, fun i hi => ?_⟩
  · have : (w.setCell ⟨g, (far + xs.length) % rm.length, none⟩ (vI x)).heap[b]? = some (.cells #[.int .i32 l, .int .u32 0, roomV g rm, vI far, vI xs.length] 53) := by
      rw [Go.RowKit.Below.heap_setCell _ _ _ _ (by show b ≠ g; exact fun e => hgb e.symm)]
      exact h.obj
    rw [set_of this 4]
    simp [roomV, hne]
  · rw [Go.RowKit.Below.heap_setCell _ _ _ _ hgb, set_of (h.row hne), ints_set]
  · simp at e; exact absurd e hne
  · simp only [List.length_append, List.length_singleton] at hi
    rw [List.length_set]
    by_cases e : i = xs.length
    · subst e
      rw [List.getElem?_set_self (Nat.mod_lt _ (by omega))]
      simp
    · rw [List.getElem?_set_ne (fun q => mod_ne hf (by omega) (by omega) e q.symm), h.has i (by omega), List.getElem?_append_left (by omega)]
end Go.Proofs.Ytkkfiipnpdlkeaa
