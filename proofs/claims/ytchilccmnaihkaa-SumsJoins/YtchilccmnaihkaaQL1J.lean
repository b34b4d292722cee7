import Derived.Test.YtchilccmnaihkaaProg
import Derived.WalkKit
import Derived.WalkLawsBesides
import Derived.StillTailTactics
import Derived.Deep.RegionHeld3
import Derived.Deep.RegionLaw
import Derived.Deep.RegionWith
import Derived.Deep.AppendLies
import Derived.Deep.Onto
import Derived.Deep.DeepCutAuto
import Derived.BigQuiet
import Derived.Laws.MakeOwn
namespace Go.Proofs.Ytchilccmnaihkaa
set_option linter.unusedVariables false
set_option linter.unusedSimpArgs false

/-! ### the plain law of summaries -/
def okN (n : Int) : Bool := (decide (0 ≤ n) && decide (n ≤ 3)) || decide (n = 9)

def all2 {α β : Type} (p : α → β → Bool) : List α → List β → Bool
  | [], [] => true
  | x :: a, y :: b => p x y && all2 p a b
  | [], _ :: _ => false
  | _ :: _, [] => false

theorem all2_len {α β : Type} {p : α → β → Bool} : ∀ {a : List α} {b : List β}, all2 p a b = true → a.length = b.length
  | [], [], _ => rfl
  | _ :: a, _ :: b, h => by
    simp only [all2, Bool.and_eq_true] at h
    simp [all2_len h.2]
  | [], _ :: _, h => by simp [all2] at h
  | _ :: _, [], h => by simp [all2] at h

theorem all2_iff {α β : Type} {p : α → β → Bool} : ∀ {a : List α} {b : List β}, all2 p a b = true ↔ a.length = b.length ∧ ∀ i (h : i < a.length) (k : i < b.length), p a[i] b[i] = true
  | [], [] => by simp [all2]
  | x :: a, y :: b => by
    simp only [all2, Bool.and_eq_true, all2_iff (a := a) (b := b), List.length_cons, Nat.add_right_cancel_iff]
    constructor
    · rintro ⟨h0, hl, h⟩
      refine ⟨hl, fun i hi hk => ?_⟩
      cases i with
      | zero => exact h0
      | succ i => exact h i (by omega) (by omega)
    · rintro ⟨hl, h⟩
      exact ⟨h 0 (by omega) (by omega), hl, fun i hi hk => h (i + 1) (by omega) (by omega)⟩
  | [], y :: b => by simp [all2]
  | x :: a, [] => by simp [all2]

theorem all2_trans {α : Type} {p : α → α → Bool} (hp : ∀ x y z, p x y = true → p y z = true → p x z = true) {a b c : List α} (h : all2 p a b = true) (k : all2 p b c = true) : all2 p a c = true := by
  rw [all2_iff] at *
  exact ⟨h.1.trans k.1, fun i hi hk => hp _ _ _ (h.2 i hi (by omega)) (k.2 i (by omega) hk)⟩
theorem all2_refl {α : Type} {p : α → α → Bool} {a : List α} (h : ∀ x ∈ a, p x x = true) : all2 p a a = true := by
  rw [all2_iff]; exact ⟨rfl, fun i hi _ => h _ (List.getElem_mem hi)⟩
theorem all2_anti {α : Type} {p : α → α → Bool} (hp : ∀ x y, p x y = true → p y x = true → x = y) {a b : List α} (h : all2 p a b = true) (k : all2 p b a = true) : a = b := by
  rw [all2_iff] at *
  exact List.ext_getElem h.1 (fun i hi hk => hp _ _ (h.2 i hi hk) (k.2 i hk hi))
theorem all2_left {α : Type} {p q : α → α → Bool} {f : α → α → α} (hp : ∀ x y, q x y = true → p (f x y) x = true) {a b : List α} (h : all2 q a b = true) : all2 p (List.zipWith f a b) a = true := by
  rw [all2_iff] at *
  refine ⟨by simp [← h.1], fun i hi hk => ?_⟩
  rw [List.getElem_zipWith]
  exact hp _ _ (h.2 i hk (by omega))
theorem all2_right {α : Type} {p q : α → α → Bool} {f : α → α → α} (hp : ∀ x y, q x y = true → p (f x y) y = true) {a b : List α} (h : all2 q a b = true) : all2 p (List.zipWith f a b) b = true := by
  rw [all2_iff] at *
  refine ⟨by simp [h.1], fun i hi hk => ?_⟩
  rw [List.getElem_zipWith]
  exact hp _ _ (h.2 i (by omega) hk)
theorem all2_meet {α : Type} {p q : α → α → Bool} {f : α → α → α} (hp : ∀ x y z, q x y = true → ((p z x && p z y) = p z (f x y))) {a b c : List α} (h : all2 q a b = true) : (all2 p c a && all2 p c b) = all2 p c (List.zipWith f a b) := by
  rw [all2_iff] at h
  rw [Bool.eq_iff_iff, Bool.and_eq_true, all2_iff, all2_iff, all2_iff]
  simp only [List.length_zipWith, List.getElem_zipWith]
  constructor
  · rintro ⟨⟨h1, h2⟩, h3, h4⟩
    refine ⟨by omega, fun i hi hk => ?_⟩
    rw [← hp _ _ _ (h.2 i (by omega) (by omega)), h2 i hi (by omega), h4 i hi (by omega)]; rfl
  · rintro ⟨h1, h2⟩
    have h3 : ∀ i (hi : i < c.length) (hk : i < a.length) (hk' : i < b.length), p c[i] a[i] = true ∧ p c[i] b[i] = true := fun i hi hk hk' => by
      have := h2 i hi (by omega)
      rw [← hp _ _ _ (h.2 i (by omega) (by omega)), Bool.and_eq_true] at this
      exact this
    exact ⟨⟨by omega, fun i hi hk => (h3 i hi hk (by omega)).1⟩, by omega, fun i hi hk => (h3 i hi (by omega) hk).2⟩
theorem zip_comm {α : Type} {f : α → α → α} (hf : ∀ x y, f x y = f y x) (a b : List α) : List.zipWith f a b = List.zipWith f b a := by
  rw [List.zipWith_comm]; congr 1; funext x y; exact hf y x
theorem zip_assoc {α : Type} {f : α → α → α} (hf : ∀ x y z, f (f x y) z = f x (f y z)) : ∀ (a b c : List α), List.zipWith f (List.zipWith f a b) c = List.zipWith f a (List.zipWith f b c)
  | [], _, _ => by simp
  | _ :: _, [], _ => by simp
  | _ :: _, _ :: _, [] => by simp
  | x :: a, y :: b, z :: c => by simp [hf, zip_assoc hf a b c]
theorem zip_pair {α : Type} {q : α → α → Bool} {f : α → α → α} (hq : ∀ x y z, q x y = true → q x z = true → q (f x y) z = true) {a b c : List α} (h : all2 q a b = true) (k : all2 q a c = true) : all2 q (List.zipWith f a b) c = true := by
  rw [all2_iff] at *
  refine ⟨by simp; omega, fun i hi hk => ?_⟩
  rw [List.getElem_zipWith]
  exact hq _ _ _ (h.2 i (by omega) (by omega)) (k.2 i (by omega) hk)

def pairB (x y : Int) : Bool := okN x && okN y
def leB (x y : Int) : Bool := okN x && okN y && decide (x ≤ y)

/-- A summary. -/
structure PS where
  heap : List Int
  res : List (List Int)
def PS.above (a b : PS) : Bool := all2 leB a.heap b.heap && all2 (all2 leB) a.res b.res
def PS.pair (a b : PS) : Bool := all2 pairB a.heap b.heap && all2 (all2 pairB) a.res b.res
def minL (a b : List Int) : List Int := List.zipWith min a b
def PS.meet (a b : PS) : PS := ⟨minL a.heap b.heap, List.zipWith minL a.res b.res⟩
/-- A right summary of so many parameters and results. -/
structure PS.Right (p r : Nat) (a : PS) : Prop where
  hl : a.heap.length = p
  rl : a.res.length = p
  ho : ∀ x ∈ a.heap, okN x = true
  ro : ∀ l ∈ a.res, l.length = r ∧ ∀ x ∈ l, okN x = true

theorem leB_trans (x y z : Int) (h : leB x y = true) (k : leB y z = true) : leB x z = true := by
  simp only [leB, Bool.and_eq_true, decide_eq_true_eq] at *; exact ⟨⟨h.1.1, k.1.2⟩, by omega⟩
theorem leB_anti (x y : Int) (h : leB x y = true) (k : leB y x = true) : x = y := by
  simp only [leB, Bool.and_eq_true, decide_eq_true_eq] at *; omega
theorem okN_min {x y : Int} (h : okN x = true) (k : okN y = true) : okN (min x y) = true := by
  rcases Int.le_total x y with e | e
  · rw [Int.min_eq_left e]; exact h
  · rw [Int.min_eq_right e]; exact k
theorem min_left (x y : Int) (h : pairB x y = true) : leB (min x y) x = true := by
  simp only [leB, pairB, Bool.and_eq_true, decide_eq_true_eq] at *; exact ⟨⟨okN_min h.1 h.2, h.1⟩, Int.min_le_left _ _⟩
theorem min_right (x y : Int) (h : pairB x y = true) : leB (min x y) y = true := by
  simp only [leB, pairB, Bool.and_eq_true, decide_eq_true_eq] at *; exact ⟨⟨okN_min h.1 h.2, h.2⟩, Int.min_le_right _ _⟩
theorem min_meet (x y z : Int) (h : pairB x y = true) : (leB z x && leB z y) = leB z (min x y) := by
  simp only [pairB, Bool.and_eq_true] at h
  rw [Bool.eq_iff_iff]
  simp only [leB, Bool.and_eq_true, decide_eq_true_eq, h.1, h.2, okN_min h.1 h.2, and_true]
  constructor
  · rintro ⟨⟨h1, h2⟩, -, h4⟩; exact ⟨h1, by omega⟩
  · rintro ⟨h1, h2⟩; exact ⟨⟨h1, by omega⟩, h1, by omega⟩
theorem pair_min (x y z : Int) (h : pairB x y = true) (k : pairB x z = true) : pairB (min x y) z = true := by
  simp only [pairB, Bool.and_eq_true] at *; exact ⟨okN_min h.1 h.2, k.2⟩

theorem PS.Right.pair {p r : Nat} {a b : PS} (h : PS.Right p r a) (k : PS.Right p r b) : a.pair b = true := by
  simp only [PS.pair, Bool.and_eq_true]
  refine ⟨all2_iff.2 ⟨h.hl.trans k.hl.symm, fun i hi hk => ?_⟩, all2_iff.2 ⟨h.rl.trans k.rl.symm, fun i hi hk => all2_iff.2 ⟨?_, fun j hj hm => ?_⟩⟩⟩
  · simp [pairB, h.ho _ (List.getElem_mem hi), k.ho _ (List.getElem_mem hk)]
  · rw [(h.ro _ (List.getElem_mem hi)).1, (k.ro _ (List.getElem_mem hk)).1]
  · simp [pairB, (h.ro _ (List.getElem_mem hi)).2 _ (List.getElem_mem hj), (k.ro _ (List.getElem_mem hk)).2 _ (List.getElem_mem hm)]
theorem PS.Right.meet {p r : Nat} {a b : PS} (h : PS.Right p r a) (k : PS.Right p r b) : PS.Right p r (a.meet b) := by
  refine ⟨by simp [PS.meet, minL, h.hl, k.hl], by simp [PS.meet, h.rl, k.rl], fun x hx => ?_, fun l hl => ?_⟩
  · obtain ⟨i, hi, rfl⟩ := List.getElem_of_mem hx
    simp only [PS.meet, minL, List.getElem_zipWith]
    exact okN_min (h.ho _ (List.getElem_mem _)) (k.ho _ (List.getElem_mem _))
  · obtain ⟨i, hi, rfl⟩ := List.getElem_of_mem hl
    simp only [PS.meet, List.getElem_zipWith]
    refine ⟨?_, fun x hx => ?_⟩
    · simp [minL, (h.ro _ (List.getElem_mem _)).1, (k.ro _ (List.getElem_mem _)).1]
    · obtain ⟨j, hj, rfl⟩ := List.getElem_of_mem hx
      simp only [minL, List.getElem_zipWith]
      exact okN_min ((h.ro _ (List.getElem_mem _)).2 _ (List.getElem_mem _)) ((k.ro _ (List.getElem_mem _)).2 _ (List.getElem_mem _))

theorem PS.above_refl {p r : Nat} {a : PS} (h : PS.Right p r a) : a.above a = true := by
  simp only [PS.above, Bool.and_eq_true]
  exact ⟨all2_refl (fun x hx => by simp [leB, h.ho x hx]), all2_refl (fun l hl => all2_refl (fun x hx => by simp [leB, (h.ro l hl).2 x hx]))⟩
theorem PS.above_trans {a b c : PS} (h : a.above b = true) (k : b.above c = true) : a.above c = true := by
  simp only [PS.above, Bool.and_eq_true] at *
  exact ⟨all2_trans leB_trans h.1 k.1, all2_trans (p := all2 leB) (fun x y z => all2_trans (a := x) (b := y) (c := z) leB_trans) h.2 k.2⟩
theorem PS.above_anti {a b : PS} (h : a.above b = true) (k : b.above a = true) : a = b := by
  simp only [PS.above, Bool.and_eq_true] at *
  obtain ⟨x, y⟩ := a; obtain ⟨z, t⟩ := b
  simp only at h k
  rw [all2_anti leB_anti h.1 k.1, all2_anti (fun _ _ => all2_anti leB_anti) h.2 k.2]
theorem PS.meet_left {a b : PS} (h : a.pair b = true) : (a.meet b).above a = true := by
  simp only [PS.pair, PS.above, Bool.and_eq_true] at *
  exact ⟨all2_left min_left h.1, all2_left (fun _ _ => all2_left min_left) h.2⟩
theorem PS.meet_right {a b : PS} (h : a.pair b = true) : (a.meet b).above b = true := by
  simp only [PS.pair, PS.above, Bool.and_eq_true] at *
  exact ⟨all2_right min_right h.1, all2_right (fun _ _ => all2_right min_right) h.2⟩
theorem PS.meet_all {a b : PS} (c : PS) (h : a.pair b = true) : (c.above a && c.above b) = c.above (a.meet b) := by
  simp only [PS.pair, Bool.and_eq_true] at h
  have h1 := all2_meet (c := c.heap) min_meet h.1
  have h2 := all2_meet (c := c.res) (fun x y z => all2_meet (a := x) (b := y) (c := z) min_meet) h.2
  simp only [PS.above, PS.meet, minL]
  rw [← h1]
  rw [show List.zipWith minL a.res b.res = List.zipWith (fun x y => List.zipWith min x y) a.res b.res from rfl, ← h2]
  cases all2 leB c.heap a.heap <;> cases all2 leB c.heap b.heap <;> cases all2 (all2 leB) c.res a.res <;> simp
theorem PS.meet_comm (a b : PS) : a.meet b = b.meet a := by
  simp only [PS.meet]
  rw [show minL a.heap b.heap = minL b.heap a.heap from zip_comm Int.min_comm _ _, zip_comm (f := minL) (fun x y => zip_comm Int.min_comm x y) a.res b.res]
theorem PS.meet_assoc (a b c : PS) : (a.meet b).meet c = a.meet (b.meet c) := by
  simp only [PS.meet]
  rw [show minL (minL a.heap b.heap) c.heap = minL a.heap (minL b.heap c.heap) from zip_assoc Int.min_assoc _ _ _, zip_assoc (f := minL) (fun x y z => zip_assoc Int.min_assoc x y z) a.res b.res c.res]

end Go.Proofs.Ytchilccmnaihkaa

namespace Go.Proofs.Ytchilccmnaihkaa
open Go.RowKit (wrap32 wrap64)
set_option linter.unusedVariables false
set_option linter.unusedSimpArgs false
/-- A proposition that the walk doesn't see. -/
def Hd (p : Prop) : Prop := p
theorem Hd.out {p : Prop} (h : Hd p) : p := h

abbrev vI (n : Int) : Value := .int .i64 n

/-- Nothing has turned but the blocks of S, and new ones. -/
structure Fr (S : Nat → Prop) (w w' : World) : Prop where
  os : w'.os = w.os
  tape : w'.tape = w.tape
  output : w'.output = w.output
  size : w.heap.size ≤ w'.heap.size
  block : ∀ k, k < w.heap.size → ¬ S k → w'.heap[k]? = w.heap[k]?

theorem Fr.refl (S : Nat → Prop) (w : World) : Fr S w w := ⟨rfl, rfl, rfl, Nat.le_refl _, fun _ _ _ => rfl⟩
theorem Fr.trans {S : Nat → Prop} {a b c : World} (h : Fr S a b) (k : Fr S b c) : Fr S a c :=
  ⟨k.os.trans h.os, k.tape.trans h.tape, k.output.trans h.output, Nat.le_trans h.size k.size, fun j hj hS => (k.block j (Nat.lt_of_lt_of_le hj h.size) hS).trans (h.block j hj hS)⟩
theorem Fr.mono {S T : Nat → Prop} {a b : World} (h : Fr S a b) (hs : ∀ k, k < a.heap.size → S k → T k) : Fr T a b :=
  ⟨h.os, h.tape, h.output, h.size, fun k hk hT => h.block k hk (fun hS => hT (hs k hk hS))⟩
theorem Fr.drew {S : Nat → Prop} {a w : World} (h : Fr S a w) : Fr S a w.drew := ⟨h.os, h.tape, h.output, h.size, h.block⟩
theorem Fr.alloc {S : Nat → Prop} {a w : World} (h : Fr S a w) (o : Obj) : Fr S a (w.alloc o) :=
  ⟨h.os, h.tape, h.output, by simp; have := h.size; omega, fun k hk hS => (Go.RowKit.Below.heap_alloc w o k (Nat.lt_of_lt_of_le hk h.size)).trans (h.block k hk hS)⟩
theorem Fr.setCell {S : Nat → Prop} {a w : World} (h : Fr S a w) (p : Addr) (v : Value) (hp : S p.block ∨ a.heap.size ≤ p.block) : Fr S a (w.setCell p v) :=
  ⟨h.os, h.tape, h.output, by simpa using h.size, fun k hk hS => by
    rw [Go.RowKit.Below.heap_setCell w p v k (by intro e; subst e; rcases hp with hp | hp; exact hS hp; omega)]; exact h.block k hk hS⟩
theorem Fr.cell {S : Nat → Prop} {w w' : World} (h : Fr S w w') {k o : Nat} (hk : k < w.heap.size) (hS : ¬ S k) : w'.cell? ⟨k, o, none⟩ = w.cell? ⟨k, o, none⟩ := World.cell?_of_block (h.block k hk hS)
/-- What turned behind is new for the elder world. -/
theorem Fr.anew {S T : Nat → Prop} {a b c : World} (h : Fr S a b) (k : Fr T b c) (hT : ∀ j, j < a.heap.size → T j → S j) : Fr S a c :=
  ⟨k.os.trans h.os, k.tape.trans h.tape, k.output.trans h.output, Nat.le_trans h.size k.size, fun j hj hS => (k.block j (Nat.lt_of_lt_of_le hj h.size) (fun t => hS (hT j hj t))).trans (h.block j hj hS)⟩
theorem grown_fr {w w' : World} {row : Option Nat} (h : w.grownBy w' row) : Fr (fun k => row = some k) w w' :=
  ⟨h.os, h.tape, h.output, h.size, fun k hk hS => h.block k hk (fun e => hS e.symm)⟩

theorem ownsRow_fr {S : Nat → Prop} {w w' : World} {B e size n : Nat} {v : Value} {xs : List Value} (h : w.ownsRow B e size v n xs) (f : Fr S w w') (hS : ∀ g, v.ownBlock = some g → ¬ S g) : w'.ownsRow B e size v n xs := by
  refine ⟨h.1, ?_⟩
  rcases h.2 with h2 | ⟨g, cap, cur, rfl, h3, h4, h5⟩
  · exact Or.inl h2
  · exact Or.inr ⟨g, cap, cur, rfl, h3, by rw [f.block g ((Array.getElem?_eq_some_iff.1 h4).1) (hS g rfl)]; exact h4, h5⟩

theorem mixed : Try.prog.follows .mixedOrders = true := by kernel_rfl
theorem addr_add (g j : Nat) : (⟨g, 0, none⟩ : Addr).add j = ⟨g, j, none⟩ := by unfold Addr.add; split <;> simp_all
theorem addr_off (b off i : Nat) : (⟨b, off, none⟩ : Addr).add i = ⟨b, off + i, none⟩ := by unfold Addr.add; split <;> simp_all
theorem heap_alloc_last (w : World) (o : Obj) : (w.alloc o).heap[w.heap.size]? = some o := (MapKept.heap_alloc w o).1
theorem heap_lt {w : World} {k : Nat} {o : Obj} (h : w.heap[k]? = some o) : k < w.heap.size := (Array.getElem?_eq_some_iff.1 h).1
theorem cell_of {w : World} {k : Nat} {cs : Array Value} {t : TypeId} (h : w.heap[k]? = some (.cells cs t)) (o : Nat) : w.cell? ⟨k, o, none⟩ = cs[o]? := by
  unfold World.cell?; rw [h]; simp
theorem frozen_of {w : World} {k : Nat} {cs : Array Value} {t : TypeId} (h : w.heap[k]? = some (.cells cs t)) (o : Nat) : w.frozen? ⟨k, o, none⟩ = false := by
  unfold World.frozen?; rw [h]; simp
theorem set_of {w : World} {k : Nat} {cs : Array Value} {t : TypeId} (h : w.heap[k]? = some (.cells cs t)) (o : Nat) (v : Value) : (w.setCell ⟨k, o, none⟩ v).heap[k]? = some (.cells (cs.setIfInBounds o v) t) := by
  unfold World.setCell
  simp only [Array.getElem?_modify]
  rw [if_pos trivial, h]
  rfl

theorem results_cell {fn : Func} {p : Tmp} {ty : TypeId} (h : fn.results = #[.cell p ty]) (tmps : Array Value) (P : Program) (w : World) :
    (results fn tmps).run P w = ((asAddr (tmps.getD p undef)).run P w).andThen fun a w₁ => (loadVar ty a).run P w₁ := by
  simp only [results, h]
  simp [Sem.run_bind, Result.andThen]

theorem run_make_of (t e : TypeId) (z : Value) (size bytes : Nat) (ht : Try.prog.underlying t = some (.slice e)) (hz : (Try.prog.info? e).map (·.zero) = some (some z)) (hs : (Try.prog.info? e).map (·.size) = some size) (hb : (Try.prog.info? e).map (·.bytes) = some bytes)
    (n : Nat) (hn : bytes * n ≤ 281474976710656) (hn' : n ≤ 1000000000000000) (w : World) :
    (Instr.makeSlice t (.int .i64 n) (.int .i64 n)).run Try.prog w = .ok (.slice (some ⟨w.heap.size, 0, none⟩) n n) (w.alloc (.cells (madeCells z.cells (n * size)) e)) := by
  cases hi : Try.prog.info? e with
  | none => rw [hi] at hz; cases hz
  | some i =>
    rw [hi] at hz hs hb
    simp only [Option.map_some, Option.some.injEq] at hz hs hb
    have := run_make (P := Try.prog) w t e i z ht hi hz .i64 .i64 n n (by omega) (by omega) (by rw [hb, ← Int.natCast_mul]; omega) (by omega)
    rw [this, hs]
    simp



/-! ### blocks -/
theorem heap_new (w : World) (o : Obj) : (w.alloc o).heap[w.heap.size]? = some o := (MapKept.heap_alloc w o).1
theorem Fr.then {S S' : Nat → Prop} {a b c : World} (h : Fr S a b) (k : Fr S' b c) (hs : ∀ j, j < a.heap.size → S' j → S j) : Fr S a c :=
  ⟨k.os.trans h.os, k.tape.trans h.tape, k.output.trans h.output, Nat.le_trans h.size k.size, fun j hj hS => (k.block j (Nat.lt_of_lt_of_le hj h.size) (fun e => hS (hs j hj e))).trans (h.block j hj hS)⟩
theorem setCell_fr (w : World) (k o : Nat) (u : Value) : Fr (fun j => j = k) w (w.setCell ⟨k, o, none⟩ u) := Fr.setCell (S := fun j => j = k) (Fr.refl _ w) _ _ (Or.inl rfl)

/-- A block of m rows of sz cells each. -/
def Rws (w : World) (t sz g m : Nat) (R : Nat → List Value) : Prop := ∃ cs : Array Value, w.heap[g]? = some (.cells cs t) ∧ cs.size = m * sz ∧ ∀ i o, i < m → o < sz → cs[i * sz + o]? = some ((R i).getD o undef)

theorem Rws.lt {w : World} {t sz g m : Nat} {R : Nat → List Value} (h : Rws w t sz g m R) : g < w.heap.size := by obtain ⟨cs, h, -⟩ := h; exact heap_lt h
theorem Rws.cell {w : World} {t sz g m : Nat} {R : Nat → List Value} (h : Rws w t sz g m R) {i o : Nat} (hi : i < m) (ho : o < sz) : w.cell? ⟨g, i * sz + o, none⟩ = some ((R i).getD o undef) := by
  obtain ⟨cs, h, -, hc⟩ := h; rw [cell_of h]; exact hc i o hi ho
theorem Rws.frozen {w : World} {t sz g m : Nat} {R : Nat → List Value} (h : Rws w t sz g m R) (q : Nat) : w.frozen? ⟨g, q, none⟩ = false := by
  obtain ⟨cs, h, -⟩ := h; exact frozen_of h q
theorem Rws.fr {S : Nat → Prop} {w w' : World} {t sz g m : Nat} {R : Nat → List Value} (h : Rws w t sz g m R) (f : Fr S w w') (hS : ¬ S g) : Rws w' t sz g m R := by
  have hl := h.lt
  obtain ⟨cs, h, h2⟩ := h; exact ⟨cs, (f.block g hl hS).trans h, h2⟩
theorem Rws.congr {w : World} {t sz g m : Nat} {R R' : Nat → List Value} (h : Rws w t sz g m R) (e : ∀ i, i < m → R i = R' i) : Rws w t sz g m R' := by
  obtain ⟨cs, h, h2, h3⟩ := h
  exact ⟨cs, h, h2, fun i o hi ho => by rw [h3 i o hi ho, e i hi]⟩
/-- Another at one place. -/
def at1 {α : Type} (f : Nat → α) (i : Nat) (x : α) : Nat → α := fun j => if j = i then x else f j
theorem at1_self {α : Type} (f : Nat → α) (i : Nat) (x : α) : at1 f i x i = x := if_pos rfl
theorem at1_ne {α : Type} (f : Nat → α) {i j : Nat} (x : α) (h : j ≠ i) : at1 f i x j = f j := if_neg h
theorem at1_at1 {α : Type} (f : Nat → α) (i : Nat) (x y : α) : at1 (at1 f i x) i y = at1 f i y := by
  funext j; unfold at1; split <;> rfl
theorem row_index {sz i j o q : Nat} (ho : o < sz) (hq : q < sz) (h : i * sz + o = j * sz + q) : i = j ∧ o = q := by
  have e1 : (i * sz + o) / sz = i := by rw [Nat.mul_comm, Nat.mul_add_div (by omega), Nat.div_eq_of_lt ho]; rfl
  have e2 : (j * sz + q) / sz = j := by rw [Nat.mul_comm, Nat.mul_add_div (by omega), Nat.div_eq_of_lt hq]; rfl
  have : i = j := by rw [← e1, ← e2, h]
  subst this
  exact ⟨rfl, by omega⟩
theorem Rws.set1 {w : World} {t sz g m : Nat} {R : Nat → List Value} (h : Rws w t sz g m R) {i o : Nat} (hi : i < m) (ho : o < sz) (hl : (R i).length = sz) (v : Value) : Rws (w.setCell ⟨g, i * sz + o, none⟩ v) t sz g m (at1 R i ((R i).set o v)) := by
  obtain ⟨cs, h, h2, h3⟩ := h
  have hlt : i * sz + o < m * sz := by
    have : (i + 1) * sz ≤ m * sz := Nat.mul_le_mul_right _ hi
    rw [Nat.add_mul] at this; omega
  refine ⟨cs.setIfInBounds (i * sz + o) v, set_of h _ v, by simpa using h2, fun j q hj hq => ?_⟩
  rw [Array.getElem?_setIfInBounds]
  by_cases e : i * sz + o = j * sz + q
  · obtain ⟨rfl, rfl⟩ := row_index ho hq e
    rw [if_pos rfl, if_pos (by omega), at1_self]
    simp [List.getD_eq_getElem?_getD, hl, ho]
  · rw [if_neg e, h3 j q hj hq]
    by_cases ej : j = i
    · subst ej
      have : o ≠ q := fun eo => e (by rw [eo])
      rw [at1_self]
      simp [List.getD_eq_getElem?_getD, List.getElem?_set_ne this]
    · rw [at1_ne _ _ ej]

/-- Numbers that lie somewhere. -/
def IA (w : World) (v : Value) (l : List Int) : Prop :=
  ∃ a c, v = .slice a l.length c ∧ (l ≠ [] → ∃ k o, a = some ⟨k, o, none⟩ ∧ k < w.heap.size ∧ ∀ j (h : j < l.length), w.cell? ⟨k, o + j, none⟩ = some (vI l[j]))
theorem IA.fr {S : Nat → Prop} {w w' : World} {v : Value} {l : List Int} (h : IA w v l) (f : Fr S w w') (hS : ∀ k, v.ownBlock = some k → ¬ S k) : IA w' v l := by
  obtain ⟨a, c, rfl, h⟩ := h
  refine ⟨a, c, rfl, fun hne => ?_⟩
  obtain ⟨k, o, rfl, hk, hc⟩ := h hne
  exact ⟨k, o, rfl, Nat.lt_of_lt_of_le hk f.size, fun j hj => (f.cell hk (hS k rfl)).trans (hc j hj)⟩
theorem IA.stay {w w' : World} {v : Value} {l : List Int} (h : IA w v l) (f : Fr (fun _ => False) w w') : IA w' v l := h.fr f (fun _ _ e => e)

theorem under22i : Try.prog.underlying 22 = some (.slice 3) := by kernel_rfl

theorem under64 : Try.prog.underlying 22 = some (.slice 3) := under22i

/-- Numbers of one's own. -/
def IOwn (w : World) (B : Nat) (v : Value) (l : List Int) : Prop := w.ownsRow B 3 1 v l.length (l.map vI)
theorem IOwn.fr {S : Nat → Prop} {w w' : World} {B : Nat} {v : Value} {l : List Int} (h : IOwn w B v l) (f : Fr S w w') (hS : ∀ k, v.ownBlock = some k → ¬ S k) : IOwn w' B v l := ownsRow_fr h f hS
theorem IOwn.ge {w : World} {B : Nat} {v : Value} {l : List Int} (h : IOwn w B v l) : ∀ k, v.ownBlock = some k → B ≤ k ∧ k < w.heap.size := World.ownsRow.lt h
theorem IOwn.mono {w : World} {B B' : Nat} {v : Value} {l : List Int} (h : IOwn w B v l) (hB : B' ≤ B) : IOwn w B' v l := World.ownsRow.mono h hB
theorem IOwn.ia {w : World} {B : Nat} {v : Value} {l : List Int} (h : IOwn w B v l) : IA w v l := by
  rcases h.2 with ⟨h2, h3⟩ | ⟨g, cap, cur, e, h3, h4, h5, h6, h7, h8⟩
  · exact ⟨none, 0, by rw [h2, h3], fun hne => absurd (List.eq_nil_of_length_eq_zero h3) hne⟩
  · refine ⟨_, cap, e, fun _ => ⟨g, 0, rfl, heap_lt h4, fun i hi => ?_⟩⟩
    rw [Nat.zero_add, cell_of h4]
    have : cur[i]? = (l.map vI)[i]? := by rw [← h8, List.getElem?_take, if_pos (by omega), Array.getElem?_toList]
    rw [this]
    simp [hi]
theorem grown_frL {w w' : World} {row : Option Nat} (h : w.grownBy w' row) : Fr (fun k => row = some k) w w' :=
  ⟨h.os, h.tape, h.output, h.size, fun k hk hS => h.block k hk (fun e => hS e.symm)⟩
theorem grow_fr0 {w wr w6 : World} {v : Value} (h : Fr (fun _ => False) w wr) (hg : wr.grownBy w6 v.ownBlock) (hb : ∀ k, v.ownBlock = some k → w.heap.size ≤ k) : Fr (fun _ => False) w w6 :=
  h.then (grown_frL hg) (fun j hj e => by have := hb j e; omega)


end Go.Proofs.Ytchilccmnaihkaa

namespace Go.Proofs.Ytchilccmnaihkaa
open Go.RowKit (wrap32 wrap64)
set_option linter.unusedVariables false
set_option linter.unusedSimpArgs false

set_option maxRecDepth 100000 in
set_option maxHeartbeats 1000000 in
theorem mayBe_any (n : Int) (w : World) : Calls Try.prog 39 #[vI n] w fun e w' => e = .returned (.bool (okN n)) ∧ w' = w := by
  unfold okN
  by_cases h0 : 0 ≤ n
  · by_cases h1 : n ≤ 3
    · go_enter Try.func39, Try.ntmps39
      go_wp2_with fail
      go_ret
      refine ⟨?_, rfl⟩
      simp [h0, h1]
    · by_cases h2 : n = 9
      · subst h2
        go_enter Try.func39, Try.ntmps39
        go_wp2_with fail
        go_ret
        exact ⟨rfl, rfl⟩
      · have h3 : (n == 9) = false := by simpa using h2
        go_enter Try.func39, Try.ntmps39
        go_wp2_with fail
        go_ret
        refine ⟨?_, rfl⟩
        simp [h1, h2]
  · by_cases h2 : n = 9
    · omega
    · have h3 : (n == 9) = false := by simpa using h2
      go_enter Try.func39, Try.ntmps39
      go_wp2_with fail
      go_ret
      refine ⟨?_, rfl⟩
      simp [h0, h2]
      omega

set_option maxRecDepth 100000 in
set_option maxHeartbeats 1000000 in
theorem atMost1_any (x y : Int) (w : World) : Calls Try.prog 38 #[vI x, vI y] w fun e w' => e = .returned (.bool (leB x y)) ∧ Fr (fun _ => False) w w' := by
  unfold leB
  go_enter Try.func38, Try.ntmps38
  go_wp2_with fail
  refine (show Calls Try.prog 39 #[vI x] w _ from mayBe_any x w).mono ?_
  rintro e w1 ⟨rfl, rfl⟩
  cases hx : okN x with
  | false =>
    go_wp2_with fail
    go_ret
    exact ⟨by simp [hx], Fr.refl _ _⟩
  | true =>
    go_wp2_with fail
    refine (show Calls Try.prog 39 #[vI y] w1 _ from mayBe_any y w1).mono ?_
    rintro e w2 ⟨rfl, rfl⟩
    cases hy : okN y with
    | false =>
      go_wp2_with fail
      go_ret
      exact ⟨by simp [hy], Fr.refl _ _⟩
    | true =>
      go_wp2_with fail
      go_ret
      exact ⟨by simp [hx, hy], Fr.refl _ _⟩

set_option maxRecDepth 100000 in
set_option maxHeartbeats 1000000 in
theorem paired1_any (x y : Int) (w : World) : Calls Try.prog 41 #[vI x, vI y] w fun e w' => e = .returned (.bool (pairB x y)) ∧ Fr (fun _ => False) w w' := by
  unfold pairB
  go_enter Try.func41, Try.ntmps41
  go_wp2_with fail
  refine (show Calls Try.prog 39 #[vI x] w _ from mayBe_any x w).mono ?_
  rintro e w1 ⟨rfl, rfl⟩
  cases hx : okN x with
  | false =>
    go_wp2_with fail
    go_ret
    exact ⟨by simp [hx], Fr.refl _ _⟩
  | true =>
    go_wp2_with fail
    refine (show Calls Try.prog 39 #[vI y] w1 _ from mayBe_any y w1).mono ?_
    rintro e w2 ⟨rfl, rfl⟩
    cases hy : okN y with
    | false =>
      go_wp2_with fail
      go_ret
      exact ⟨by simp [hy], Fr.refl _ _⟩
    | true =>
      go_wp2_with fail
      go_ret
      exact ⟨by simp [hx, hy], Fr.refl _ _⟩

set_option maxRecDepth 100000 in
set_option maxHeartbeats 1000000 in
theorem rightList1_any (x : Int) (w : World) : Calls Try.prog 47 #[vI x] w fun e w' => e = .returned (.bool (!okN x)) ∧ Fr (fun _ => False) w w' := by
  go_enter Try.func47, Try.ntmps47
  go_wp2_with fail
  refine (show Calls Try.prog 39 #[vI x] w _ from mayBe_any x w).mono ?_
  rintro e w1 ⟨rfl, rfl⟩
  go_wp2_with fail
  go_ret
  exact ⟨rfl, Fr.refl _ _⟩

/-- Two lists, one by one. -/
theorem all2_take {p : Int → Int → Bool} {a b : List Int} (hl : a.length = b.length) {k : Nat} (h : ∀ i (hi : i < a.length) (hk : i < b.length), i < k → p a[i] b[i] = true) (hk : k = a.length) : all2 p a b = true :=
  all2_iff.2 ⟨hl, fun i hi hk' => h i hi hk' (by omega)⟩
theorem all2_bad {α β : Type} {p : α → β → Bool} {a : List α} {b : List β} {k : Nat} (hi : k < a.length) (hk : k < b.length) (h : p a[k] b[k] = false) : all2 p a b = false := by
  rw [Bool.eq_false_iff]; intro e
  rw [all2_iff] at e
  have := e.2 k hi hk
  rw [h] at this; cases this
theorem all2_short {α β : Type} {p : α → β → Bool} {a : List α} {b : List β} (h : a.length ≠ b.length) : all2 p a b = false := by
  rw [Bool.eq_false_iff]; intro e; exact h (all2_len e)

/-- Lists of numbers that lie somewhere. -/
def LA (w : World) (v : Value) (zss : List (List Int)) : Prop :=
  ∃ a c, v = .slice a zss.length c ∧ (zss ≠ [] → ∃ k o, a = some ⟨k, o, none⟩ ∧ k < w.heap.size ∧ ∀ j (h : j < zss.length), ∃ u, w.cell? ⟨k, o + j, none⟩ = some u ∧ IA w u zss[j])
theorem LA.stay {w w' : World} {v : Value} {zss : List (List Int)} (h : LA w v zss) (f : Fr (fun _ => False) w w') : LA w' v zss := by
  obtain ⟨a, c, rfl, h⟩ := h
  refine ⟨a, c, rfl, fun hne => ?_⟩
  obtain ⟨k, o, rfl, hk, hc⟩ := h hne
  refine ⟨k, o, rfl, Nat.lt_of_lt_of_le hk f.size, fun j hj => ?_⟩
  obtain ⟨u, h1, h2⟩ := hc j hj
  exact ⟨u, (f.cell hk (fun e => e)).trans h1, h2.stay f⟩

end Go.Proofs.Ytchilccmnaihkaa

namespace Go.Proofs.Ytchilccmnaihkaa
open Go.RowKit (wrap32 wrap64)
set_option linter.unusedVariables false
set_option linter.unusedSimpArgs false

set_option maxRecDepth 100000 in
set_option maxHeartbeats 1000000 in
theorem equal38 (v1 v2 : Value) (a b : List Int) (w : World) (h1 : IA w v1 a) (h2 : IA w v2 b) (hz : a.length ≤ 17592186043904) (hzb : b.length ≤ 17592186043904) :
    Calls Try.prog 37 #[v1, v2, .func (.func 38) #[] #[]] w fun e w' => e = .returned (.bool (all2 leB a b)) ∧ Fr (fun _ => False) w w' := by
  obtain ⟨a1, c1, rfl, hc1⟩ := h1
  obtain ⟨a2, c2, rfl, hc2⟩ := h2
  have H1 : Hd _ := hc1
  have H2 : Hd _ := hc2
  clear hc1 hc2
  by_cases hl : a.length = b.length
  · obtain ⟨n, hn⟩ : ∃ n, a.length = n := ⟨_, rfl⟩
    have hnb : b.length = n := by rw [← hl]; exact hn
    have HN : Hd (a.length = n) := hn
    have HNB : Hd (b.length = n) := hnb
    have HL : Hd (a.length = b.length) := hl
    have hnz : n ≤ 17592186043904 := by rw [← hn]; exact hz
    rw [hn, hnb]
    clear hn hnb hl hz hzb
    go_enter Try.func37, Try.ntmps37
    go_wp2_with fail
    go_loopw [17] (fun v wr => ∃ (k : Nat), v = .int .i64 k ∧ k ≤ n ∧ Hd (∀ i (hi : i < a.length) (hk : i < b.length), i < k → leB a[i] b[i] = true) ∧ Hd (Fr (fun _ => False) w wr)) (fun v _ => match v with | .int _ q => n - q.toNat | _ => 0)
    case atStart => exact ⟨0, rfl, Nat.zero_le _, fun i _ _ h => absurd h (by omega), Fr.refl _ _⟩
    case round =>
      obtain ⟨k, rfl, hk, HP, HF⟩ := hrel
      by_cases hltn : k < n
      · have hlt : k < a.length := by rw [HN.out]; exact hltn
        have hlb : k < b.length := by rw [HNB.out]; exact hltn
        obtain ⟨k1, o1, rfl, hk1, g1⟩ := H1.out (by intro e; simp [e] at hlt)
        obtain ⟨k2, o2, rfl, hk2, g2⟩ := H2.out (by intro e; simp [e] at hlb)
        have q1 := (HF.out.cell (o := o1 + k) hk1 (fun h => h)).trans (g1 k hlt)
        have q2 := (HF.out.cell (o := o2 + k) hk2 (fun h => h)).trans (g2 k hlb)
        have HB : Hd (leB a[k] b[k] = false → all2 leB a b = false) := fun e => all2_bad hlt hlb e
        have HS : Hd (leB a[k] b[k] = true → ∀ i (hi : i < a.length) (hk : i < b.length), i < k + 1 → leB a[i] b[i] = true) := fun e i hi hk' h => by
          by_cases e2 : i = k
          · subst e2; exact e
          · exact HP.out i hi hk' (by omega)
        generalize a[k] = x at *
        generalize b[k] = y at *
        have hk0 : (0 : Int) ≤ k := by omega
        have hk3 : (k : Int) < n := by omega
        clear g1 g2 HP hlt hlb
        go_wp2_with fail
        refine (show Calls Try.prog 38 #[vI x, vI y] wr _ from atMost1_any x y wr).mono ?_
        rintro e w1 ⟨rfl, hF1⟩
        have HF1 : Hd (Fr (fun _ => False) w w1) := HF.out.trans hF1
        clear hF1 HF q1 q2
        cases hp : leB x y with
        | false =>
          go_wp2_with fail
          go_ret
          exact ⟨by rw [HB.out hp]; rfl, HF1.out⟩
        | true =>
          go_wp2_with fail
          refine ⟨⟨k + 1, by simp, by omega, HS.out hp, HF1.out⟩, by simp; omega⟩
      · have hdk : decide ((k : Int) < n) = false := by simp; omega
        go_wp2_with fail
        go_ret
        exact ⟨by rw [all2_take HL.out HP.out (by rw [HN.out]; omega)]; rfl, HF.out⟩
  · have hneq : ((a.length : Int) != b.length) = true := by simp; omega
    go_enter Try.func37, Try.ntmps37
    go_wp2_with fail
    go_ret
    exact ⟨by rw [all2_short hl]; rfl, Fr.refl _ _⟩

set_option maxRecDepth 100000 in
set_option maxHeartbeats 1000000 in
theorem atMost_any (v1 v2 : Value) (a b : List Int) (w : World) (h1 : IA w v1 a) (h2 : IA w v2 b) (hz : a.length ≤ 17592186043904) (hzb : b.length ≤ 17592186043904) :
    Calls Try.prog 21 #[v1, v2] w fun e w' => e = .returned (.bool (all2 leB a b)) ∧ Fr (fun _ => False) w w' := by
  have H1 : Hd _ := h1
  have H2 : Hd _ := h2
  obtain ⟨a1, c1, rfl, -⟩ := h1
  obtain ⟨a2, c2, rfl, -⟩ := h2
  go_enter Try.func21, Try.ntmps21
  go_wp2_with fail
  refine (show Calls Try.prog 37 #[.slice a1 a.length c1, .slice a2 b.length c2, .func (.func 38) #[] #[]] w _ from equal38 _ _ a b w H1.out H2.out hz hzb).mono ?_
  rintro e w1 ⟨rfl, hF1⟩
  have HF1 : Hd (Fr (fun _ => False) w w1) := hF1
  clear hF1
  go_wp2_with fail
  go_ret
  exact ⟨rfl, HF1.out⟩

set_option maxRecDepth 100000 in
set_option maxHeartbeats 1000000 in
theorem equalL21 (v1 v2 : Value) (a b : List (List Int)) (w : World) (h1 : LA w v1 a) (h2 : LA w v2 b) (hz : a.length ≤ 17592186043904) (hzb : b.length ≤ 17592186043904) (ha : ∀ l ∈ a, l.length ≤ 17592186043904) (hb : ∀ l ∈ b, l.length ≤ 17592186043904) :
    Calls Try.prog 22 #[v1, v2, .func (.func 21) #[] #[]] w fun e w' => e = .returned (.bool (all2 (all2 leB) a b)) ∧ Fr (fun _ => False) w w' := by
  obtain ⟨a1, c1, rfl, hc1⟩ := h1
  obtain ⟨a2, c2, rfl, hc2⟩ := h2
  have H1 : Hd (a ≠ [] → _) := hc1
  have H2 : Hd (b ≠ [] → _) := hc2
  have HA : Hd (∀ l ∈ a, l.length ≤ 17592186043904) := ha
  have HBl : Hd (∀ l ∈ b, l.length ≤ 17592186043904) := hb
  clear hc1 hc2 ha hb
  by_cases hl : a.length = b.length
  · obtain ⟨n, hn⟩ : ∃ n, a.length = n := ⟨_, rfl⟩
    have hnb : b.length = n := by rw [← hl]; exact hn
    have HN : Hd (a.length = n) := hn
    have HNB : Hd (b.length = n) := hnb
    have HL : Hd (a.length = b.length) := hl
    have hnz : n ≤ 17592186043904 := by rw [← hn]; exact hz
    rw [hn, hnb]
    clear hn hnb hl hz hzb
    go_enter Try.func22, Try.ntmps22
    go_wp2_with fail
    go_loopw [17] (fun v wr => ∃ (k : Nat), v = .int .i64 k ∧ k ≤ n ∧ Hd (∀ i (hi : i < a.length) (hk : i < b.length), i < k → all2 leB a[i] b[i] = true) ∧ Hd (Fr (fun _ => False) w wr)) (fun v _ => match v with | .int _ q => n - q.toNat | _ => 0)
    case atStart => exact ⟨0, rfl, Nat.zero_le _, fun i _ _ h => absurd h (by omega), Fr.refl _ _⟩
    case round =>
      obtain ⟨k, rfl, hk, HP, HF⟩ := hrel
      by_cases hltn : k < n
      · have hlt : k < a.length := by rw [HN.out]; exact hltn
        have hlb : k < b.length := by rw [HNB.out]; exact hltn
        obtain ⟨k1, o1, rfl, hk1, g1⟩ := H1.out (by intro e; simp [e] at hlt)
        obtain ⟨k2, o2, rfl, hk2, g2⟩ := H2.out (by intro e; simp [e] at hlb)
        obtain ⟨u1, p1, i1⟩ := g1 k hlt
        obtain ⟨u2, p2, i2⟩ := g2 k hlb
        have q1 := (HF.out.cell hk1 (fun h => h)).trans p1
        have q2 := (HF.out.cell hk2 (fun h => h)).trans p2
        have hza : a[k].length ≤ 17592186043904 := HA.out _ (List.getElem_mem hlt)
        have hzb : b[k].length ≤ 17592186043904 := HBl.out _ (List.getElem_mem hlb)
        have I1 : Hd (IA wr u1 a[k]) := i1.stay HF.out
        have I2 : Hd (IA wr u2 b[k]) := i2.stay HF.out
        have HB : Hd (all2 leB a[k] b[k] = false → all2 (all2 leB) a b = false) := fun e => all2_bad hlt hlb e
        have HS : Hd (all2 leB a[k] b[k] = true → ∀ i (hi : i < a.length) (hk : i < b.length), i < k + 1 → all2 leB a[i] b[i] = true) := fun e i hi hk' h => by
          by_cases e2 : i = k
          · subst e2; exact e
          · exact HP.out i hi hk' (by omega)
        generalize a[k] = x at *
        generalize b[k] = y at *
        obtain ⟨x1, y1, rfl, -⟩ := I1.out
        obtain ⟨x2, y2, rfl, -⟩ := I2.out
        have hk0 : (0 : Int) ≤ k := by omega
        have hk3 : (k : Int) < n := by omega
        clear g1 g2 HP hlt hlb i1 i2 p1 p2
        go_wp2_with fail
        refine (show Calls Try.prog 21 #[.slice x1 x.length y1, .slice x2 y.length y2] wr _ from atMost_any _ _ x y wr I1.out I2.out hza hzb).mono ?_
        rintro e w1 ⟨rfl, hF1⟩
        have HF1 : Hd (Fr (fun _ => False) w w1) := HF.out.trans hF1
        clear hF1 HF q1 q2 I1 I2
        cases hp : all2 leB x y with
        | false =>
          go_wp2_with fail
          go_ret
          exact ⟨by rw [HB.out hp]; rfl, HF1.out⟩
        | true =>
          go_wp2_with fail
          refine ⟨⟨k + 1, by simp, by omega, HS.out hp, HF1.out⟩, by simp; omega⟩
      · have hdk : decide ((k : Int) < n) = false := by simp; omega
        go_wp2_with fail
        go_ret
        refine ⟨?_, HF.out⟩
        rw [all2_iff.2 ⟨HL.out, fun i hi hk' => HP.out i hi hk' (by rw [HN.out] at hi; omega)⟩]; rfl
  · have hneq : ((a.length : Int) != b.length) = true := by simp; omega
    go_enter Try.func22, Try.ntmps22
    go_wp2_with fail
    go_ret
    exact ⟨by rw [all2_short hl]; rfl, Fr.refl _ _⟩

end Go.Proofs.Ytchilccmnaihkaa
