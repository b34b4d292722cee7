import Derived.Test.YtcjfmfddkhpfnaaProg
import Derived.WalkKit
import Derived.WalkLawsBesides
import Derived.StillTailTactics
import Derived.Deep.RegionHeld3
import Derived.Deep.RegionLaw
import Derived.Deep.AppendLies
import Derived.BigQuiet
import Derived.Laws.MathBits
import Derived.Laws.CopyOwn
import Derived.Laws.MakeOwn
namespace Go.Proofs.Ytcjfmfddkhpfnaa
open Go.RowKit (wrap32 wrap64)
set_option linter.unusedVariables false
set_option linter.unusedSimpArgs false

/-- A proposition that the walk doesn't see. -/
def Hd (p : Prop) : Prop := p
theorem Hd.out {p : Prop} (h : Hd p) : p := h

abbrev vI (n : Int) : Value := .int .i64 n

/-- Nothing has turned but the blocks of S, and new ones. -/
structure Fr (S : Nat → Prop) (w w' : World) : Prop where
  os : w'.os = w.os
  tape : w'.tape = w.tape
  output : w'.output = w.output
  size : w.heap.size ≤ w'.heap.size
  block : ∀ k, k < w.heap.size → ¬ S k → w'.heap[k]? = w.heap[k]?

theorem Fr.refl (S : Nat → Prop) (w : World) : Fr S w w := ⟨rfl, rfl, rfl, Nat.le_refl _, fun _ _ _ => rfl⟩
theorem Fr.trans {S : Nat → Prop} {a b c : World} (h : Fr S a b) (k : Fr S b c) : Fr S a c :=
  ⟨k.os.trans h.os, k.tape.trans h.tape, k.output.trans h.output, Nat.le_trans h.size k.size, fun j hj hS => (k.block j (Nat.lt_of_lt_of_le hj h.size) hS).trans (h.block j hj hS)⟩
theorem Fr.mono {S T : Nat → Prop} {a b : World} (h : Fr S a b) (hs : ∀ k, k < a.heap.size → S k → T k) : Fr T a b :=
  ⟨h.os, h.tape, h.output, h.size, fun k hk hT => h.block k hk (fun hS => hT (hs k hk hS))⟩
theorem Fr.drew {S : Nat → Prop} {a w : World} (h : Fr S a w) : Fr S a w.drew := ⟨h.os, h.tape, h.output, h.size, h.block⟩
theorem Fr.alloc {S : Nat → Prop} {a w : World} (h : Fr S a w) (o : Obj) : Fr S a (w.alloc o) :=
  ⟨h.os, h.tape, h.output, by simp; have := h.size; omega, fun k hk hS => (Go.RowKit.Below.heap_alloc w o k (Nat.lt_of_lt_of_le hk h.size)).trans (h.block k hk hS)⟩
theorem Fr.setCell {S : Nat → Prop} {a w : World} (h : Fr S a w) (p : Addr) (v : Value) (hp : S p.block ∨ a.heap.size ≤ p.block) : Fr S a (w.setCell p v) :=
  ⟨h.os, h.tape, h.output, by simpa using h.size, fun k hk hS => by
    rw [Go.RowKit.Below.heap_setCell w p v k (by intro e; subst e; rcases hp with hp | hp; exact hS hp; omega)]; exact h.block k hk hS⟩
theorem Fr.cell {S : Nat → Prop} {w w' : World} (h : Fr S w w') {k o : Nat} (hk : k < w.heap.size) (hS : ¬ S k) : w'.cell? ⟨k, o, none⟩ = w.cell? ⟨k, o, none⟩ := World.cell?_of_block (h.block k hk hS)
/-- What turned behind is new for the elder world. -/
theorem Fr.anew {S T : Nat → Prop} {a b c : World} (h : Fr S a b) (k : Fr T b c) (hT : ∀ j, j < a.heap.size → T j → S j) : Fr S a c :=
  ⟨k.os.trans h.os, k.tape.trans h.tape, k.output.trans h.output, Nat.le_trans h.size k.size, fun j hj hS => (k.block j (Nat.lt_of_lt_of_le hj h.size) (fun t => hS (hT j hj t))).trans (h.block j hj hS)⟩
theorem grown_fr {w w' : World} {row : Option Nat} (h : w.grownBy w' row) : Fr (fun k => row = some k) w w' :=
  ⟨h.os, h.tape, h.output, h.size, fun k hk hS => h.block k hk (fun e => hS e.symm)⟩

theorem ownsRow_fr {S : Nat → Prop} {w w' : World} {B e size n : Nat} {v : Value} {xs : List Value} (h : w.ownsRow B e size v n xs) (f : Fr S w w') (hS : ∀ g, v.ownBlock = some g → ¬ S g) : w'.ownsRow B e size v n xs := by
  refine ⟨h.1, ?_⟩
  rcases h.2 with h2 | ⟨g, cap, cur, rfl, h3, h4, h5⟩
  · exact Or.inl h2
  · exact Or.inr ⟨g, cap, cur, rfl, h3, by rw [f.block g ((Array.getElem?_eq_some_iff.1 h4).1) (hS g rfl)]; exact h4, h5⟩

theorem mixed : Try.prog.follows .mixedOrders = true := by kernel_rfl
theorem addr_add (g j : Nat) : (⟨g, 0, none⟩ : Addr).add j = ⟨g, j, none⟩ := by unfold Addr.add; split <;> simp_all
theorem addr_off (b off i : Nat) : (⟨b, off, none⟩ : Addr).add i = ⟨b, off + i, none⟩ := by unfold Addr.add; split <;> simp_all
theorem heap_alloc_last (w : World) (o : Obj) : (w.alloc o).heap[w.heap.size]? = some o := (MapKept.heap_alloc w o).1
theorem heap_lt {w : World} {k : Nat} {o : Obj} (h : w.heap[k]? = some o) : k < w.heap.size := (Array.getElem?_eq_some_iff.1 h).1
theorem cell_of {w : World} {k : Nat} {cs : Array Value} {t : TypeId} (h : w.heap[k]? = some (.cells cs t)) (o : Nat) : w.cell? ⟨k, o, none⟩ = cs[o]? := by
  unfold World.cell?; rw [h]; simp
theorem frozen_of {w : World} {k : Nat} {cs : Array Value} {t : TypeId} (h : w.heap[k]? = some (.cells cs t)) (o : Nat) : w.frozen? ⟨k, o, none⟩ = false := by
  unfold World.frozen?; rw [h]; simp
theorem set_of {w : World} {k : Nat} {cs : Array Value} {t : TypeId} (h : w.heap[k]? = some (.cells cs t)) (o : Nat) (v : Value) : (w.setCell ⟨k, o, none⟩ v).heap[k]? = some (.cells (cs.setIfInBounds o v) t) := by
  unfold World.setCell
  simp only [Array.getElem?_modify]
  rw [if_pos trivial, h]
  rfl

/-! ### rows of cells -/
def upd {α : Type} (f : Nat → α) (i : Nat) (x : α) : Nat → α := fun j => if j = i then x else f j
theorem upd_same {α : Type} (f : Nat → α) (i : Nat) (x : α) : upd f i x i = x := by simp [upd]
theorem upd_ne {α : Type} (f : Nat → α) {i j : Nat} (x : α) (h : j ≠ i) : upd f i x j = f j := by simp [upd, h]
theorem upd_map {α β : Type} (g : α → β) (f : Nat → α) (i : Nat) (x : α) : (fun j => g (upd f i x j)) = upd (fun j => g (f j)) i (g x) := by
  funext j; unfold upd; split <;> rfl

/-- A block of m cells of a type. -/
def Row (w : World) (t : TypeId) (b m : Nat) (g : Nat → Value) : Prop := ∃ cs : Array Value, w.heap[b]? = some (.cells cs t) ∧ cs.size = m ∧ ∀ i, i < m → cs[i]? = some (g i)
theorem Row.lt {w : World} {t : TypeId} {b m : Nat} {g : Nat → Value} (h : Row w t b m g) : b < w.heap.size := by obtain ⟨cs, h, -⟩ := h; exact heap_lt h
theorem Row.cell {w : World} {t : TypeId} {b m : Nat} {g : Nat → Value} (h : Row w t b m g) {i : Nat} (hi : i < m) : w.cell? ⟨b, i, none⟩ = some (g i) := by
  obtain ⟨cs, h, hs, hc⟩ := h; rw [cell_of h]; exact hc i hi
theorem Row.frozen {w : World} {t : TypeId} {b m : Nat} {g : Nat → Value} (h : Row w t b m g) (i : Nat) : w.frozen? ⟨b, i, none⟩ = false := by
  obtain ⟨cs, h, hs, hc⟩ := h; exact frozen_of h i
theorem Row.fr {S : Nat → Prop} {w w' : World} {t : TypeId} {b m : Nat} {g : Nat → Value} (h : Row w t b m g) (f : Fr S w w') (hS : ¬ S b) : Row w' t b m g := by
  have hl := h.lt
  obtain ⟨cs, h, hs, hc⟩ := h; exact ⟨cs, (f.block b hl hS).trans h, hs, hc⟩
theorem Row.set {w : World} {t : TypeId} {b m : Nat} {g : Nat → Value} (h : Row w t b m g) (i : Nat) (v : Value) : Row (w.setCell ⟨b, i, none⟩ v) t b m (upd g i v) := by
  obtain ⟨cs, h, hs, hc⟩ := h
  refine ⟨cs.setIfInBounds i v, set_of h i v, by simpa using hs, fun j hj => ?_⟩
  rw [Array.getElem?_setIfInBounds]
  by_cases e : i = j
  · subst e; simp [upd, hs, hj]
  · rw [if_neg e, hc j hj, upd_ne _ _ (fun x => e x.symm)]
theorem Row.congr {w : World} {t : TypeId} {b m : Nat} {g g' : Nat → Value} (h : Row w t b m g) (e : ∀ i, i < m → g i = g' i) : Row w t b m g' := by
  obtain ⟨cs, h, hs, hc⟩ := h
  exact ⟨cs, h, hs, fun i hi => (hc i hi).trans (by rw [e i hi])⟩
theorem Row.setI {w : World} {t : TypeId} {b m : Nat} {f : Nat → Int} (h : Row w t b m (fun i => vI (f i))) (i : Nat) (x : Int) : Row (w.setCell ⟨b, i, none⟩ (vI x)) t b m (fun j => vI (upd f i x j)) :=
  (h.set i (vI x)).congr fun j _ => by unfold upd; split <;> rfl
theorem Row.setB {w : World} {t : TypeId} {b m : Nat} {f : Nat → Bool} (h : Row w t b m (fun i => .bool (f i))) (i : Nat) (x : Bool) : Row (w.setCell ⟨b, i, none⟩ (.bool x)) t b m (fun j => .bool (upd f i x j)) :=
  (h.set i (.bool x)).congr fun j _ => by unfold upd; split <;> rfl
theorem Row.made (w : World) (t : TypeId) (m : Nat) (v : Value) : Row (w.alloc (.cells (Array.replicate m v) t)) t w.heap.size m (fun _ => v) :=
  ⟨_, heap_alloc_last w _, by simp, fun i hi => by simp [Array.getElem?_replicate, hi]⟩

/-! ### edges, numbers that lie there -/
abbrev Ed := Int × Int × Int
abbrev Ed.dst (e : Ed) : Int := e.1
abbrev Ed.src (e : Ed) : Int := e.2.1
abbrev Ed.der (e : Ed) : Int := e.2.2
abbrev eV (e : Ed) : Value := .agg #[vI e.1, vI e.2.1, vI e.2.2]

/-- Numbers that lie below a block's number. -/
def IntsAt (n0 : Nat) (w : World) (v : Value) (zs : List Int) : Prop :=
  ∃ a c, v = .slice a zs.length c ∧ zs.length ≤ c ∧ (zs ≠ [] → ∃ k o, a = some ⟨k, o, none⟩ ∧ k < n0 ∧ ∀ i (h : i < zs.length), w.cell? ⟨k, o + i, none⟩ = some (vI zs[i]))
/-- Edges that lie below a block's number. -/
def EdgesAt (n0 : Nat) (w : World) (v : Value) (es : List Ed) : Prop :=
  ∃ a c, v = .slice a es.length c ∧ es.length ≤ c ∧ (es ≠ [] → ∃ k o, a = some ⟨k, o, none⟩ ∧ k < n0 ∧ ∀ i (h : i < es.length),
    w.cell? ⟨k, o + i * 3, none⟩ = some (vI es[i].1) ∧ w.cell? ⟨k, o + i * 3 + 1, none⟩ = some (vI es[i].2.1) ∧ w.cell? ⟨k, o + i * 3 + 2, none⟩ = some (vI es[i].2.2))

theorem IntsAt.fr {S : Nat → Prop} {n0 : Nat} {w w' : World} {v : Value} {zs : List Int} (h : IntsAt n0 w v zs) (f : Fr S w w') (hn : n0 ≤ w.heap.size) (hS : ∀ k, k < n0 → ¬ S k) : IntsAt n0 w' v zs := by
  obtain ⟨a, c, e, hc, h⟩ := h
  refine ⟨a, c, e, hc, fun hne => ?_⟩
  obtain ⟨k, o, e, hk, h⟩ := h hne
  exact ⟨k, o, e, hk, fun i hi => (f.cell (by omega) (hS k hk)).trans (h i hi)⟩
theorem EdgesAt.fr {S : Nat → Prop} {n0 : Nat} {w w' : World} {v : Value} {es : List Ed} (h : EdgesAt n0 w v es) (f : Fr S w w') (hn : n0 ≤ w.heap.size) (hS : ∀ k, k < n0 → ¬ S k) : EdgesAt n0 w' v es := by
  obtain ⟨a, c, e, hc, h⟩ := h
  refine ⟨a, c, e, hc, fun hne => ?_⟩
  obtain ⟨k, o, e, hk, h⟩ := h hne
  exact ⟨k, o, e, hk, fun i hi => ⟨(f.cell (by omega) (hS k hk)).trans (h i hi).1, (f.cell (by omega) (hS k hk)).trans (h i hi).2.1, (f.cell (by omega) (hS k hk)).trans (h i hi).2.2⟩⟩

/-! ### the small functions -/
def flowsX (d : Int) : Bool := decide (-1 ≤ d ∧ d ≤ 3)
def plusX (d k : Int) : Int := if flowsX d && flowsX k then min (max d 0 + k) 3 else 9
def weightX (d : Int) : Int := if flowsX d then d else 9

theorem flows_any (d : Int) (w : World) : Calls Try.prog 21 #[.int .i64 d] w fun e w' => e = .returned (.bool (flowsX d)) ∧ w' = w := by
  by_cases h : -1 ≤ d
  · have h' : decide (-1 ≤ d) = true := by simpa using h
    go_enter Try.func21, Try.ntmps21
    go_wp2
    go_ret
    exact ⟨by simp [flowsX, h], rfl⟩
  · have h' : decide (-1 ≤ d) = false := by simpa using h
    go_enter Try.func21, Try.ntmps21
    go_wp2
    go_ret
    exact ⟨by simp [flowsX]; omega, rfl⟩

theorem below_any (d n : Int) (w : World) : Calls Try.prog 31 #[.int .i64 d, .int .i64 n] w fun e w' => e = .returned (.bool (decide (0 ≤ d ∧ d < n))) ∧ w' = w := by
  by_cases h : 0 ≤ d
  · have h' : decide (0 ≤ d) = true := by simpa using h
    go_enter Try.func31, Try.ntmps31
    go_wp2
    go_ret
    exact ⟨by simp [h], rfl⟩
  · have h' : decide (0 ≤ d) = false := by simpa using h
    go_enter Try.func31, Try.ntmps31
    go_wp2
    go_ret
    exact ⟨by simp [h], rfl⟩

theorem plus_any (d k : Int) (w : World) : Calls Try.prog 11 #[.int .i64 d, .int .i64 k] w fun e w' => e = .returned (vI (plusX d k)) ∧ w' = w := by
  cases hd : flowsX d
  · go_enter Try.func11, Try.ntmps11
    go_wp2_with fail
    refine (flows_any d w).mono ?_
    rintro e w1 ⟨rfl, rfl⟩
    rw [hd]
    go_wp2_with fail
    go_ret
    exact ⟨by simp [plusX, hd], rfl⟩
  · cases hk : flowsX k
    · go_enter Try.func11, Try.ntmps11
      go_wp2_with fail
      refine (flows_any d w).mono ?_
      rintro e w1 ⟨rfl, rfl⟩
      rw [hd]
      go_wp2_with fail
      refine (flows_any k w1).mono ?_
      rintro e w2 ⟨rfl, rfl⟩
      rw [hk]
      go_wp2_with fail
      go_ret
      exact ⟨by simp [plusX, hd, hk], rfl⟩
    · go_enter Try.func11, Try.ntmps11
      go_wp2_with fail
      refine (flows_any d w).mono ?_
      rintro e w1 ⟨rfl, rfl⟩
      rw [hd]
      go_wp2_with fail
      refine (flows_any k w1).mono ?_
      rintro e w2 ⟨rfl, rfl⟩
      rw [hk]
      go_wp2_with fail
      all_goals
        go_ret
        refine ⟨?_, rfl⟩
        simp only [flowsX, decide_eq_true_eq] at hd hk
        have e : plusX d k = min (max d 0 + k) 3 := by simp [plusX, flowsX, hd, hk]
        rw [e]
        refine congrArg (fun z => Ending.returned (vI z)) ?_
        unfold wrap64 at *
        rcases Int.lt_or_le d 0 with h0 | h0
        · rw [show max d 0 = 0 by omega]
          try simp only [if_pos h0] at *
          omega
        · rw [show max d 0 = d by omega]
          try simp only [if_neg (Int.not_lt.2 h0)] at *
          omega

end Go.Proofs.Ytcjfmfddkhpfnaa

namespace Go.Proofs.Ytcjfmfddkhpfnaa
set_option linter.unusedVariables false
set_option linter.unusedSimpArgs false

/-! ### the plain law: ways and their weights -/
theorem plusX_mono {a b : Int} (k : Int) (h : a ≤ b) (ha : flowsX a = true) : plusX a k ≤ plusX b k := by
  simp only [plusX, flowsX] at *
  simp only [decide_eq_true_eq] at ha
  by_cases hb : -1 ≤ b ∧ b ≤ 3
  · by_cases hk : -1 ≤ k ∧ k ≤ 3
    · simp [ha, hb, hk]; omega
    · simp [hk]
  · by_cases hk : -1 ≤ k ∧ k ≤ 3
    · simp [ha, hb, hk]; omega
    · simp [hk]
theorem plusX_flows {a k : Int} (ha : flowsX a = true) (hk : flowsX k = true) : flowsX (plusX a k) = true := by
  simp only [plusX, ha, hk, flowsX, decide_eq_true_eq] at *
  simp
  omega
theorem plusX_nine (k : Int) : plusX 9 k = 9 := by simp [plusX, flowsX]
theorem plusX_le (a k : Int) : plusX a k ≤ 9 := by unfold plusX; split <;> omega

/-- A way to a root, of that weight. -/
inductive Reach (es : List Ed) (rs : List Int) : Int → Int → Prop
  | root {r : Int} : r ∈ rs → Reach es rs r 0
  | step {e : Ed} {d : Int} : e ∈ es → Reach es rs e.1 d → Reach es rs e.2.1 (plusX d e.2.2)

/-- Weights: at most 0 at roots, no edge says less, and each is a way's. -/
structure Least (n : Nat) (es : List Ed) (rs : List Int) (x : Nat → Int) : Prop where
  root : ∀ r : Nat, (r : Int) ∈ rs → x r ≤ 0
  edge : ∀ (d s : Nat) k, ((d : Int), (s : Int), k) ∈ es → x s ≤ plusX (x d) k
  way : ∀ i, i < n → x i = 9 ∨ Reach es rs i (x i)

/-- May the locations, edges and roots be? -/
def RightE (n : Int) (e : Ed) : Prop := (0 ≤ e.1 ∧ e.1 < n) ∧ (0 ≤ e.2.1 ∧ e.2.1 < n) ∧ flowsX e.2.2 = true
instance (n : Int) (e : Ed) : Decidable (RightE n e) := by unfold RightE; infer_instance
def RightG (n : Int) (es : List Ed) (rs : List Int) : Prop := (0 ≤ n ∧ n ≤ 1048576) ∧ (∀ e ∈ es, RightE n e) ∧ (∀ r ∈ rs, 0 ≤ r ∧ r < n)
instance (n : Int) (es : List Ed) (rs : List Int) : Decidable (RightG n es rs) := by unfold RightG; infer_instance

theorem Reach.right {n : Int} {es : List Ed} {rs : List Int} (h : RightG n es rs) {i d : Int} (r : Reach es rs i d) : (0 ≤ i ∧ i < n) ∧ flowsX d = true := by
  induction r with
  | root hr => exact ⟨h.2.2 _ hr, by decide⟩
  | step he _ ih => exact ⟨(h.2.1 _ he).2.1, plusX_flows ih.2 (h.2.1 _ he).2.2⟩

theorem Least.le {n : Nat} {es : List Ed} {rs : List Int} {x : Nat → Int} (hr : RightG n es rs) (h : Least n es rs x) {i d : Int} (r : Reach es rs i d) : x i.toNat ≤ d := by
  induction r with
  | @root r hm =>
    have := h.root r.toNat (by have := hr.2.2 r hm; rw [Int.toNat_of_nonneg this.1]; exact hm)
    exact this
  | @step e d he hd ih =>
    have hR := hr.2.1 e he
    have h1 := h.edge e.1.toNat e.2.1.toNat e.2.2 (by rw [Int.toNat_of_nonneg hR.1.1, Int.toNat_of_nonneg hR.2.1.1]; exact he)
    refine Int.le_trans h1 ?_
    have hx : x e.1.toNat = 9 ∨ flowsX (x e.1.toNat) = true := by
      rcases h.way e.1.toNat (by have := hR.1; omega) with h | h
      · exact Or.inl h
      · exact Or.inr (h.right hr).2
    rcases hx with hx | hx
    · have := (hd.right hr).2
      simp [flowsX] at this
      omega
    · exact plusX_mono _ ih hx

theorem Least.val {n : Nat} {es : List Ed} {rs : List Int} {x : Nat → Int} (hr : RightG n es rs) (h : Least n es rs x) {i : Nat} (hi : i < n) : x i = 9 ∨ (-1 ≤ x i ∧ x i ≤ 3) := by
  rcases h.way i hi with h | h
  · exact Or.inl h
  · have := (h.right hr).2
    simp [flowsX] at this
    exact Or.inr this

/-- There is but one. -/
theorem Least.unique {n : Nat} {es : List Ed} {rs : List Int} {x y : Nat → Int} (hr : RightG n es rs) (hx : Least n es rs x) (hy : Least n es rs y) {i : Nat} (hi : i < n) : x i = y i := by
  have key : ∀ {x y : Nat → Int}, Least n es rs x → Least n es rs y → x i ≤ y i := by
    intro x y hx hy
    rcases hy.way i hi with h | h
    · rw [h]
      rcases hx.val hr hi with h | h <;> omega
    · have := hx.le hr h
      simpa using this
  exact Int.le_antisymm (key hx hy) (key hy hx)

/-- More ways, no greater weight. -/
theorem Least.mono {n : Nat} {es es' : List Ed} {rs rs' : List Int} {x y : Nat → Int} (hr : RightG n es rs) (hr' : RightG n es' rs') (hx : Least n es rs x) (hy : Least n es' rs' y) (hw : ∀ i d, Reach es rs i d → ∃ d', d' ≤ d ∧ Reach es' rs' i d') {i : Nat} (hi : i < n) : y i ≤ x i := by
  rcases hx.way i hi with h | h
  · rw [h]
    rcases hy.val hr' hi with h | h <;> omega
  · obtain ⟨d', hd, h'⟩ := hw _ _ h
    have := hy.le hr' h'
    simp at this
    omega

end Go.Proofs.Ytcjfmfddkhpfnaa

namespace Go.Proofs.Ytcjfmfddkhpfnaa
open Go.RowKit (wrap32 wrap64)
set_option linter.unusedVariables false
set_option linter.unusedSimpArgs false

theorem mul64_one (n : Nat) (hn : n ≤ 1048577) (w : World) : Calls Try.prog 34 #[.int .u64 1, .int .u64 n] w fun e w' => e = .returned (.tuple #[.int .u64 0, .int .u64 n]) ∧ w' = w := by
  have e1 : bits .and .u64 1 4294967295 = 1 := by kernel_rfl
  have e2 : bits .and .u64 (n : Int) 4294967295 = n := by rw [and_low32 _ (by omega) (by omega)]; omega
  have e3 : bits .and .u64 0 4294967295 = 0 := by kernel_rfl
  have e4 : (n : Int) / 4294967296 = 0 := by omega
  have e5 : IntKind.u64.wrap (n : Int) = n := by simp [IntKind.wrap, IntKind.bits, IntKind.signed]; omega
  have e6 : IntKind.u64.wrap (0 : Int) = 0 := by kernel_rfl
  go_enter Try.func34, Try.ntmps34
  go_wp2
  go_ret2
  exact ⟨rfl, rfl⟩

theorem mul_one (n : Nat) (hn : n ≤ 1048577) (w : World) : Calls Try.prog 32 #[.int .u64 1, .int .u64 n] w fun e w' => e = .returned (.tuple #[.int .u64 0, .int .u64 n]) ∧ w' = w := by
  go_enter Try.func32, Try.ntmps32
  go_wp2_with fail
  refine (mul64_one n hn w).mono ?_
  rintro e w1 ⟨rfl, rfl⟩
  go_wp2_with fail
  go_ret2
  exact ⟨rfl, rfl⟩

theorem run_make_of (t e : TypeId) (z : Value) (size bytes : Nat) (ht : Try.prog.underlying t = some (.slice e)) (hz : (Try.prog.info? e).map (·.zero) = some (some z)) (hs : (Try.prog.info? e).map (·.size) = some size) (hb : (Try.prog.info? e).map (·.bytes) = some bytes)
    (n : Nat) (hn : bytes * n ≤ 281474976710656) (hn' : n ≤ 1000000000000000) (w : World) :
    (Instr.makeSlice t (.int .i64 n) (.int .i64 n)).run Try.prog w = .ok (.slice (some ⟨w.heap.size, 0, none⟩) n n) (w.alloc (.cells (madeCells z.cells (n * size)) e)) := by
  cases hi : Try.prog.info? e with
  | none => rw [hi] at hz; cases hz
  | some i =>
    rw [hi] at hz hs hb
    simp only [Option.map_some, Option.some.injEq] at hz hs hb
    have := run_make (P := Try.prog) w t e i z ht hi hz .i64 .i64 n n (by omega) (by omega) (by rw [hb, ← Int.natCast_mul]; omega) (by omega)
    rw [this, hs]
    simp
theorem made_one (z : Value) (n : Nat) : madeCells #[z] n = (List.replicate n z).toArray := by
  unfold madeCells
  apply Array.ext
  · simp
  · intro i h1 h2
    simp [Nat.mod_one]

theorem under22 : Try.prog.underlying 22 = some (.slice 3) := by kernel_rfl
theorem size3 : (Try.prog.info? 3).map (·.size) = some 1 := by kernel_rfl

/-- So many of n are 9. -/
def nines (n k : Nat) : List Value := List.replicate k (vI 9) ++ List.replicate (n - k) (vI 0)
theorem nines_length (n k : Nat) (h : k ≤ n) : (nines n k).length = n := by simp [nines]; omega
theorem nines_zero (n : Nat) : nines n 0 = List.replicate n (vI 0) := by simp [nines]
theorem nines_all (n : Nat) : nines n n = List.replicate n (vI 9) := by simp [nines]
theorem nines_splice (n k m : Nat) (h : k + m ≤ n) : splice (nines n k) k (List.replicate m (vI 9)) = nines n (k + m) := by
  unfold splice nines
  rw [List.take_append_of_le_length (by simp), List.take_of_length_le (by simp), List.drop_append]
  simp only [List.length_replicate, List.drop_replicate]
  rw [show k - (k + m) = 0 by omega, show n - k - (k + m - k) = n - (k + m) by omega]
  rw [← List.append_assoc, List.replicate_append_replicate]
  simp
theorem nines_get (n k j : Nat) (h : j < k) : (nines n k)[j]? = some (vI 9) := by
  unfold nines
  rw [List.getElem?_append_left (by simpa using h)]
  simp [List.getElem?_replicate, h]

theorem below_fr {B : Nat} {w w' : World} (h : RowKit.Below B w w') (hB : B = w.heap.size) : Fr (fun _ => False) w w' :=
  ⟨h.os, h.tape, h.output, h.size, fun k hk _ => h.block k (by omega)⟩

theorem make_ints (n : Nat) (hn : n ≤ 10000000000000) (w : World) : (Instr.makeSlice 22 (.int .i64 n) (.int .i64 n)).run Try.prog w = .ok (.slice (some ⟨w.heap.size, 0, none⟩) n n) (w.alloc (.cells (Array.replicate n (vI 0)) 3)) := by
  rw [run_make_of 22 3 (vI 0) 1 8 under22 (by kernel_rfl) (by kernel_rfl) (by kernel_rfl) n (by omega) (by omega) w, Nat.mul_one]
  show Result.ok _ (w.alloc (.cells (madeCells #[vI 0] n) 3)) = _
  rw [made_one, List.toArray_replicate]

/-- The first copy. -/
theorem copy_first (xb n : Nat) (w : World) (hxl : xb < w.heap.size) (hx : w.cell? ⟨xb, 0, none⟩ = some (vI 9)) :
    ∃ w2, (Builtin.copy_ #[22, 22] 3 #[.slice (some ⟨w.heap.size, 0, none⟩) n n, .slice (some ⟨xb, 0, none⟩) 1 1]).run Try.prog (w.alloc (.cells (Array.replicate n (vI 0)) 3)) = .ok (.int .i64 (min 1 n : Nat)) w2 ∧
      w2.heap[w.heap.size]? = some (.cells (nines n (min 1 n)).toArray 3) ∧ Fr (fun _ => False) w w2 := by
  have hg0 : (w.alloc (.cells (Array.replicate n (vI 0)) 3)).heap[w.heap.size]? = some (.cells (nines n 0).toArray 3) := by
    rw [heap_alloc_last, nines_zero, List.toArray_replicate]
  have hb0 : Fr (fun _ => False) w (w.alloc (.cells (Array.replicate n (vI 0)) 3)) := Fr.alloc (Fr.refl _ w) _
  have hsrc : ∀ j v, (List.replicate (min 1 n) (vI 9))[j]? = some v → (w.alloc (.cells (Array.replicate n (vI 0)) 3)).cell? ((⟨xb, 0, none⟩ : Addr).add j) = some v := by
    intro j v hj
    rw [List.getElem?_replicate] at hj
    split at hj
    · rw [show j = 0 by omega]
      cases hj
      exact (hb0.cell (o := 0) hxl (fun h => h)).trans hx
    · cases hj
  have hr := run_copy_row (P := Try.prog) (w.alloc (.cells (Array.replicate n (vI 0)) 3)) 22 22 3 3 w.heap.size 0 n n ⟨xb, 0, none⟩ 1 1 (nines n 0).toArray 3 (List.replicate (min 1 n) (vI 9)) under22 size3 hg0 (by simp) hsrc (by simp [nines_length]; omega) (by intro v hv; rw [List.eq_of_mem_replicate hv]; rfl)
  have e := nines_splice n 0 (min 1 n) (by omega)
  rw [Nat.zero_add] at e
  have e' : ((nines n 0).toArray.toList.take 0 ++ List.replicate (min 1 n) (vI 9) ++ (nines n 0).toArray.toList.drop (0 + (List.replicate (min 1 n) (vI 9)).length)) = nines n (min 1 n) := by rw [← e]; simp [splice]
  rw [e', List.length_replicate] at hr
  refine ⟨_, hr, setRow_heap _ _ _ _ _ _ hg0, rfl, rfl, rfl, by simp [World.setRow], fun k hk _ => ?_⟩
  rw [setRow_other _ _ _ _ (by omega)]
  exact RowKit.Below.heap_alloc w _ k hk

set_option maxRecDepth 100000 in
set_option maxHeartbeats 1000000 in
theorem repeat_nine (xb : Nat) (n : Nat) (hn : n ≤ 1048576) (w : World) (hx : w.cell? ⟨xb, 0, none⟩ = some (vI 9)) :
    Calls Try.prog 24 #[.slice (some ⟨xb, 0, none⟩) 1 1, .int .i64 n] w fun e w' => e = .returned (.slice (some ⟨w.heap.size, 0, none⟩) n n) ∧ w'.heap[w.heap.size]? = some (.cells (List.replicate n (vI 9)).toArray 3) ∧ Fr (fun _ => False) w w' := by
  have e1 : IntKind.u64.wrap (n : Int) = n := by simp [IntKind.wrap, IntKind.bits, IntKind.signed]; omega
  have e0 : ¬ (n : Int) < 0 := by omega
  have hxl : xb < w.heap.size := World.block_lt_of_cell? w ⟨xb, 0, none⟩ hx
  have hmk := make_ints n (by omega) w
  obtain ⟨w2, hcp, hN2, hF2⟩ := copy_first xb n w hxl hx
  have HN2 : Hd _ := hN2
  have HF2 : Hd _ := hF2
  clear hN2 hF2 hx
  go_enter Try.func24, Try.ntmps24
  go_wp2_with fail
  refine (mul_one n (by omega) w).mono ?_
  rintro e w1 ⟨rfl, rfl⟩
  go_wp2_with fail
  clear hmk hcp
  obtain ⟨g, hg⟩ : ∃ g, g = w1.heap.size := ⟨_, rfl⟩
  have HG : Hd (g = w1.heap.size) := hg
  rw [← hg] at HN2 ⊢
  clear hg
  obtain ⟨m0, hm0⟩ : ∃ m, m = min 1 n := ⟨_, rfl⟩
  have HM0 : Hd (m0 = min 1 n) := hm0
  rw [← hm0] at HN2 ⊢
  clear hm0
  go_loopw [8] (fun v wr => ∃ (k : Nat), v = .int .i64 k ∧ k ≤ n ∧ (k = 0 → n = 0) ∧ Hd (wr.heap[g]? = some (.cells (nines n k).toArray 3)) ∧ Hd (Fr (fun _ => False) w1 wr)) (fun v _ => match v with | .int _ q => n - q.toNat | _ => 0)
  case atStart => exact ⟨m0, rfl, by have := HM0.out; omega, by have := HM0.out; omega, HN2.out, HF2.out⟩
  case round =>
    obtain ⟨k, rfl, hk, hk0, HN, HF⟩ := hrel
    clear HN2 HF2
    by_cases hlt : k < n
    · have hkp : 0 < k := by omega
      have hsrc : ∀ j v, (List.replicate (min k (n - k)) (vI 9))[j]? = some v → wr.cell? ((⟨g, 0, none⟩ : Addr).add j) = some v := by
        intro j v hj
        rw [List.getElem?_replicate] at hj
        split at hj
        · cases hj
          rw [addr_add, cell_of HN.out]
          rw [List.getElem?_toArray]
          exact nines_get n k j (by omega)
        · cases hj
      have HSR : Hd _ := hsrc
      have hki : (0 : Int) ≤ k := by omega
      have hki1 : (k : Int) ≤ n := by omega
      have HB : Hd (RowKit.Below w1.heap.size w1 wr.drew) := ⟨HF.out.os, HF.out.tape, HF.out.output, HF.out.size, fun k hk => HF.out.block k hk (fun h => h)⟩
      clear hsrc
      go_wp2_with fail
      go_region_law (
        refine step_copy_splice rfl (.tmp 41) (.tmp 44) 22 22 rfl 3 under22 size3 (some ⟨g, k, none⟩) (some ⟨g, 0, none⟩) (n - k) (n - k) k n (by simp [Act.eval, Act.put]; try omega) (by simp [Act.eval, Act.put]; try omega) g k (nines n k) 3 HN.out (List.replicate (min k (n - k)) (vI 9)) (by simp) (fun _ => ⟨rfl, _, rfl, HSR.out⟩) (by rw [nines_length _ _ (by omega), List.length_replicate]; omega) (by intro v hv; rw [List.eq_of_mem_replicate hv]; rfl) w1.heap.size w1 HB.out (by rw [HG.out]; exact Nat.le_refl _) ?_
        intro w3 HG3 HB3)
      all_goals
        have HF3 : Hd (Fr (fun _ => False) w1 w3) := below_fr HB3 rfl
        have HN3 : Hd (w3.heap[g]? = some (.cells (nines n (k + min k (n - k))).toArray 3)) := by
          have := HG3.out
          rw [nines_splice n k (min k (n - k)) (by omega)] at this
          exact this
        clear HG3 HB3 HN HF HSR HB
        obtain ⟨q, hq⟩ : ∃ q, q = min k (n - k) := ⟨_, rfl⟩
        try simp only [List.length_replicate, goInt]
        rw [← hq] at HN3 ⊢
        have hq0 : 0 < q := by omega
        have hq1 : k + q ≤ n := by omega
        clear hq
        have hw : IntKind.i64.wrap ((k : Int) + (q : Int)) = ((k + q : Nat) : Int) := by simp [IntKind.wrap, IntKind.bits, IntKind.signed]; omega
        go_wp2_with fail
        refine ⟨⟨k + q, by simp, hq1, by omega, ?_⟩, by omega⟩
        first
          | exact ⟨HN3.out, HF3.out⟩
          | exact HN3.out
    · have hke : k = n := by omega
      subst hke
      go_wp2_with fail
      go_ret
      exact ⟨by rw [HG.out]; rfl, by have := HN.out; rw [nines_all] at this; rw [← HG.out]; exact this, HF.out⟩

end Go.Proofs.Ytcjfmfddkhpfnaa
