import Derived.Test.YtcjfmfddkhpfnabProg
import Derived.WalkKit
import Derived.WalkLawsBesides
import Derived.StillTailTactics
import Derived.Deep.RegionHeld3
import Derived.Deep.RegionLaw
import Derived.Deep.AppendLies
import Derived.BigQuiet
namespace Go.Proofs.Ytcjfmfddkhpfnab
open Go.RowKit (wrap32 wrap64)
set_option linter.unusedVariables false
set_option linter.unusedSimpArgs false

/-- A proposition that the walk doesn't see. -/
def Hd (p : Prop) : Prop := p
theorem Hd.out {p : Prop} (h : Hd p) : p := h

abbrev vI (n : Int) : Value := .int .i64 n

/-- Nothing has turned but the blocks of S, and new ones. -/
structure Fr (S : Nat → Prop) (w w' : World) : Prop where
  os : w'.os = w.os
  tape : w'.tape = w.tape
  output : w'.output = w.output
  size : w.heap.size ≤ w'.heap.size
  block : ∀ k, k < w.heap.size → ¬ S k → w'.heap[k]? = w.heap[k]?

theorem Fr.refl (S : Nat → Prop) (w : World) : Fr S w w := ⟨rfl, rfl, rfl, Nat.le_refl _, fun _ _ _ => rfl⟩
theorem Fr.trans {S : Nat → Prop} {a b c : World} (h : Fr S a b) (k : Fr S b c) : Fr S a c :=
  ⟨k.os.trans h.os, k.tape.trans h.tape, k.output.trans h.output, Nat.le_trans h.size k.size, fun j hj hS => (k.block j (Nat.lt_of_lt_of_le hj h.size) hS).trans (h.block j hj hS)⟩
theorem Fr.mono {S T : Nat → Prop} {a b : World} (h : Fr S a b) (hs : ∀ k, k < a.heap.size → S k → T k) : Fr T a b :=
  ⟨h.os, h.tape, h.output, h.size, fun k hk hT => h.block k hk (fun hS => hT (hs k hk hS))⟩
theorem Fr.drew {S : Nat → Prop} {a w : World} (h : Fr S a w) : Fr S a w.drew := ⟨h.os, h.tape, h.output, h.size, h.block⟩
theorem Fr.alloc {S : Nat → Prop} {a w : World} (h : Fr S a w) (o : Obj) : Fr S a (w.alloc o) :=
  ⟨h.os, h.tape, h.output, by simp; have := h.size; omega, fun k hk hS => (Go.RowKit.Below.heap_alloc w o k (Nat.lt_of_lt_of_le hk h.size)).trans (h.block k hk hS)⟩
theorem Fr.setCell {S : Nat → Prop} {a w : World} (h : Fr S a w) (p : Addr) (v : Value) (hp : S p.block ∨ a.heap.size ≤ p.block) : Fr S a (w.setCell p v) :=
  ⟨h.os, h.tape, h.output, by simpa using h.size, fun k hk hS => by
    rw [Go.RowKit.Below.heap_setCell w p v k (by intro e; subst e; rcases hp with hp | hp; exact hS hp; omega)]; exact h.block k hk hS⟩
theorem Fr.cell {S : Nat → Prop} {w w' : World} (h : Fr S w w') {k o : Nat} (hk : k < w.heap.size) (hS : ¬ S k) : w'.cell? ⟨k, o, none⟩ = w.cell? ⟨k, o, none⟩ := World.cell?_of_block (h.block k hk hS)
/-- What turned behind is new for the elder world. -/
theorem Fr.anew {S T : Nat → Prop} {a b c : World} (h : Fr S a b) (k : Fr T b c) (hT : ∀ j, j < a.heap.size → T j → S j) : Fr S a c :=
  ⟨k.os.trans h.os, k.tape.trans h.tape, k.output.trans h.output, Nat.le_trans h.size k.size, fun j hj hS => (k.block j (Nat.lt_of_lt_of_le hj h.size) (fun t => hS (hT j hj t))).trans (h.block j hj hS)⟩
theorem grown_fr {w w' : World} {row : Option Nat} (h : w.grownBy w' row) : Fr (fun k => row = some k) w w' :=
  ⟨h.os, h.tape, h.output, h.size, fun k hk hS => h.block k hk (fun e => hS e.symm)⟩

theorem ownsRow_fr {S : Nat → Prop} {w w' : World} {B e size n : Nat} {v : Value} {xs : List Value} (h : w.ownsRow B e size v n xs) (f : Fr S w w') (hS : ∀ g, v.ownBlock = some g → ¬ S g) : w'.ownsRow B e size v n xs := by
  refine ⟨h.1, ?_⟩
  rcases h.2 with h2 | ⟨g, cap, cur, rfl, h3, h4, h5⟩
  · exact Or.inl h2
  · exact Or.inr ⟨g, cap, cur, rfl, h3, by rw [f.block g ((Array.getElem?_eq_some_iff.1 h4).1) (hS g rfl)]; exact h4, h5⟩

theorem mixed : Try.prog.follows .mixedOrders = true := by kernel_rfl
theorem addr_add (g j : Nat) : (⟨g, 0, none⟩ : Addr).add j = ⟨g, j, none⟩ := by unfold Addr.add; split <;> simp_all
theorem addr_off (b off i : Nat) : (⟨b, off, none⟩ : Addr).add i = ⟨b, off + i, none⟩ := by unfold Addr.add; split <;> simp_all
theorem heap_alloc_last (w : World) (o : Obj) : (w.alloc o).heap[w.heap.size]? = some o := (MapKept.heap_alloc w o).1
theorem heap_lt {w : World} {k : Nat} {o : Obj} (h : w.heap[k]? = some o) : k < w.heap.size := (Array.getElem?_eq_some_iff.1 h).1
theorem cell_of {w : World} {k : Nat} {cs : Array Value} {t : TypeId} (h : w.heap[k]? = some (.cells cs t)) (o : Nat) : w.cell? ⟨k, o, none⟩ = cs[o]? := by
  unfold World.cell?; rw [h]; simp
theorem frozen_of {w : World} {k : Nat} {cs : Array Value} {t : TypeId} (h : w.heap[k]? = some (.cells cs t)) (o : Nat) : w.frozen? ⟨k, o, none⟩ = false := by
  unfold World.frozen?; rw [h]; simp
theorem set_of {w : World} {k : Nat} {cs : Array Value} {t : TypeId} (h : w.heap[k]? = some (.cells cs t)) (o : Nat) (v : Value) : (w.setCell ⟨k, o, none⟩ v).heap[k]? = some (.cells (cs.setIfInBounds o v) t) := by
  unfold World.setCell
  simp only [Array.getElem?_modify]
  rw [if_pos trivial, h]
  rfl

/-! ### rows of cells -/
def upd {α : Type} (f : Nat → α) (i : Nat) (x : α) : Nat → α := fun j => if j = i then x else f j
theorem upd_same {α : Type} (f : Nat → α) (i : Nat) (x : α) : upd f i x i = x := by simp [upd]
theorem upd_ne {α : Type} (f : Nat → α) {i j : Nat} (x : α) (h : j ≠ i) : upd f i x j = f j := by simp [upd, h]
theorem upd_map {α β : Type} (g : α → β) (f : Nat → α) (i : Nat) (x : α) : (fun j => g (upd f i x j)) = upd (fun j => g (f j)) i (g x) := by
  funext j; unfold upd; split <;> rfl

/-- A block of m cells of a type. -/
def Row (w : World) (t : TypeId) (b m : Nat) (g : Nat → Value) : Prop := ∃ cs : Array Value, w.heap[b]? = some (.cells cs t) ∧ cs.size = m ∧ ∀ i, i < m → cs[i]? = some (g i)
theorem Row.lt {w : World} {t : TypeId} {b m : Nat} {g : Nat → Value} (h : Row w t b m g) : b < w.heap.size := by obtain ⟨cs, h, -⟩ := h; exact heap_lt h
theorem Row.cell {w : World} {t : TypeId} {b m : Nat} {g : Nat → Value} (h : Row w t b m g) {i : Nat} (hi : i < m) : w.cell? ⟨b, i, none⟩ = some (g i) := by
  obtain ⟨cs, h, hs, hc⟩ := h; rw [cell_of h]; exact hc i hi
theorem Row.frozen {w : World} {t : TypeId} {b m : Nat} {g : Nat → Value} (h : Row w t b m g) (i : Nat) : w.frozen? ⟨b, i, none⟩ = false := by
  obtain ⟨cs, h, hs, hc⟩ := h; exact frozen_of h i
theorem Row.fr {S : Nat → Prop} {w w' : World} {t : TypeId} {b m : Nat} {g : Nat → Value} (h : Row w t b m g) (f : Fr S w w') (hS : ¬ S b) : Row w' t b m g := by
  have hl := h.lt
  obtain ⟨cs, h, hs, hc⟩ := h; exact ⟨cs, (f.block b hl hS).trans h, hs, hc⟩
theorem Row.set {w : World} {t : TypeId} {b m : Nat} {g : Nat → Value} (h : Row w t b m g) (i : Nat) (v : Value) : Row (w.setCell ⟨b, i, none⟩ v) t b m (upd g i v) := by
  obtain ⟨cs, h, hs, hc⟩ := h
  refine ⟨cs.setIfInBounds i v, set_of h i v, by simpa using hs, fun j hj => ?_⟩
  rw [Array.getElem?_setIfInBounds]
  by_cases e : i = j
  · subst e; simp [upd, hs, hj]
  · rw [if_neg e, hc j hj, upd_ne _ _ (fun x => e x.symm)]
theorem Row.congr {w : World} {t : TypeId} {b m : Nat} {g g' : Nat → Value} (h : Row w t b m g) (e : ∀ i, i < m → g i = g' i) : Row w t b m g' := by
  obtain ⟨cs, h, hs, hc⟩ := h
  exact ⟨cs, h, hs, fun i hi => (hc i hi).trans (by rw [e i hi])⟩
theorem Row.setI {w : World} {t : TypeId} {b m : Nat} {f : Nat → Int} (h : Row w t b m (fun i => vI (f i))) (i : Nat) (x : Int) : Row (w.setCell ⟨b, i, none⟩ (vI x)) t b m (fun j => vI (upd f i x j)) :=
  (h.set i (vI x)).congr fun j _ => by unfold upd; split <;> rfl
theorem Row.setB {w : World} {t : TypeId} {b m : Nat} {f : Nat → Bool} (h : Row w t b m (fun i => .bool (f i))) (i : Nat) (x : Bool) : Row (w.setCell ⟨b, i, none⟩ (.bool x)) t b m (fun j => .bool (upd f i x j)) :=
  (h.set i (.bool x)).congr fun j _ => by unfold upd; split <;> rfl
theorem Row.made (w : World) (t : TypeId) (m : Nat) (v : Value) : Row (w.alloc (.cells (Array.replicate m v) t)) t w.heap.size m (fun _ => v) :=
  ⟨_, heap_alloc_last w _, by simp, fun i hi => by simp [Array.getElem?_replicate, hi]⟩

/-! ### edges, numbers that lie there -/
abbrev Ed := Int × Int × Int
abbrev Ed.dst (e : Ed) : Int := e.1
abbrev Ed.src (e : Ed) : Int := e.2.1
abbrev Ed.der (e : Ed) : Int := e.2.2
abbrev eV (e : Ed) : Value := .agg #[vI e.1, vI e.2.1, vI e.2.2]

/-- Numbers that lie below a block's number. -/
def IntsAt (n0 : Nat) (w : World) (v : Value) (zs : List Int) : Prop :=
  ∃ a c, v = .slice a zs.length c ∧ zs.length ≤ c ∧ (zs ≠ [] → ∃ k o, a = some ⟨k, o, none⟩ ∧ k < n0 ∧ ∀ i (h : i < zs.length), w.cell? ⟨k, o + i, none⟩ = some (vI zs[i]))
/-- Edges that lie below a block's number. -/
def EdgesAt (n0 : Nat) (w : World) (v : Value) (es : List Ed) : Prop :=
  ∃ a c, v = .slice a es.length c ∧ es.length ≤ c ∧ (es ≠ [] → ∃ k o, a = some ⟨k, o, none⟩ ∧ k < n0 ∧ ∀ i (h : i < es.length),
    w.cell? ⟨k, o + i * 3, none⟩ = some (vI es[i].1) ∧ w.cell? ⟨k, o + i * 3 + 1, none⟩ = some (vI es[i].2.1) ∧ w.cell? ⟨k, o + i * 3 + 2, none⟩ = some (vI es[i].2.2))

theorem IntsAt.fr {S : Nat → Prop} {n0 : Nat} {w w' : World} {v : Value} {zs : List Int} (h : IntsAt n0 w v zs) (f : Fr S w w') (hn : n0 ≤ w.heap.size) (hS : ∀ k, k < n0 → ¬ S k) : IntsAt n0 w' v zs := by
  obtain ⟨a, c, e, hc, h⟩ := h
  refine ⟨a, c, e, hc, fun hne => ?_⟩
  obtain ⟨k, o, e, hk, h⟩ := h hne
  exact ⟨k, o, e, hk, fun i hi => (f.cell (by omega) (hS k hk)).trans (h i hi)⟩
theorem EdgesAt.fr {S : Nat → Prop} {n0 : Nat} {w w' : World} {v : Value} {es : List Ed} (h : EdgesAt n0 w v es) (f : Fr S w w') (hn : n0 ≤ w.heap.size) (hS : ∀ k, k < n0 → ¬ S k) : EdgesAt n0 w' v es := by
  obtain ⟨a, c, e, hc, h⟩ := h
  refine ⟨a, c, e, hc, fun hne => ?_⟩
  obtain ⟨k, o, e, hk, h⟩ := h hne
  exact ⟨k, o, e, hk, fun i hi => ⟨(f.cell (by omega) (hS k hk)).trans (h i hi).1, (f.cell (by omega) (hS k hk)).trans (h i hi).2.1, (f.cell (by omega) (hS k hk)).trans (h i hi).2.2⟩⟩

/-! ### the small functions -/
def flowsX (d : Int) : Bool := decide (-1 ≤ d ∧ d ≤ 3)
def plusX (d k : Int) : Int := if flowsX d && flowsX k then min (max d 0 + k) 3 else 9
def weightX (d : Int) : Int := if flowsX d then d else 9

theorem flows_any (d : Int) (w : World) : Calls Try.prog 30 #[.int .i64 d] w fun e w' => e = .returned (.bool (flowsX d)) ∧ w' = w := by
  by_cases h : -1 ≤ d
  · have h' : decide (-1 ≤ d) = true := by simpa using h
    go_enter Try.func30, Try.ntmps30
    go_wp2
    go_ret
    exact ⟨by simp [flowsX, h], rfl⟩
  · have h' : decide (-1 ≤ d) = false := by simpa using h
    go_enter Try.func30, Try.ntmps30
    go_wp2
    go_ret
    exact ⟨by simp [flowsX]; omega, rfl⟩

theorem below_any (d n : Int) (w : World) : Calls Try.prog 29 #[.int .i64 d, .int .i64 n] w fun e w' => e = .returned (.bool (decide (0 ≤ d ∧ d < n))) ∧ w' = w := by
  by_cases h : 0 ≤ d
  · have h' : decide (0 ≤ d) = true := by simpa using h
    go_enter Try.func29, Try.ntmps29
    go_wp2
    go_ret
    exact ⟨by simp [h], rfl⟩
  · have h' : decide (0 ≤ d) = false := by simpa using h
    go_enter Try.func29, Try.ntmps29
    go_wp2
    go_ret
    exact ⟨by simp [h], rfl⟩

theorem plus_any (d k : Int) (w : World) : Calls Try.prog 24 #[.int .i64 d, .int .i64 k] w fun e w' => e = .returned (vI (plusX d k)) ∧ w' = w := by
  cases hd : flowsX d
  · go_enter Try.func24, Try.ntmps24
    go_wp2_with fail
    refine (flows_any d w).mono ?_
    rintro e w1 ⟨rfl, rfl⟩
    rw [hd]
    go_wp2_with fail
    go_ret
    exact ⟨by simp [plusX, hd], rfl⟩
  · cases hk : flowsX k
    · go_enter Try.func24, Try.ntmps24
      go_wp2_with fail
      refine (flows_any d w).mono ?_
      rintro e w1 ⟨rfl, rfl⟩
      rw [hd]
      go_wp2_with fail
      refine (flows_any k w1).mono ?_
      rintro e w2 ⟨rfl, rfl⟩
      rw [hk]
      go_wp2_with fail
      go_ret
      exact ⟨by simp [plusX, hd, hk], rfl⟩
    · go_enter Try.func24, Try.ntmps24
      go_wp2_with fail
      refine (flows_any d w).mono ?_
      rintro e w1 ⟨rfl, rfl⟩
      rw [hd]
      go_wp2_with fail
      refine (flows_any k w1).mono ?_
      rintro e w2 ⟨rfl, rfl⟩
      rw [hk]
      go_wp2_with fail
      all_goals
        go_ret
        refine ⟨?_, rfl⟩
        simp only [flowsX, decide_eq_true_eq] at hd hk
        have e : plusX d k = min (max d 0 + k) 3 := by simp [plusX, flowsX, hd, hk]
        rw [e]
        refine congrArg (fun z => Ending.returned (vI z)) ?_
        unfold wrap64 at *
        rcases Int.lt_or_le d 0 with h0 | h0
        · rw [show max d 0 = 0 by omega]
          try simp only [if_pos h0] at *
          omega
        · rw [show max d 0 = d by omega]
          try simp only [if_neg (Int.not_lt.2 h0)] at *
          omega

end Go.Proofs.Ytcjfmfddkhpfnab

namespace Go.Proofs.Ytcjfmfddkhpfnab
set_option linter.unusedVariables false
set_option linter.unusedSimpArgs false

/-! ### the plain law: ways and their weights -/
theorem plusX_mono {a b : Int} (k : Int) (h : a ≤ b) (ha : flowsX a = true) : plusX a k ≤ plusX b k := by
  simp only [plusX, flowsX] at *
  simp only [decide_eq_true_eq] at ha
  by_cases hb : -1 ≤ b ∧ b ≤ 3
  · by_cases hk : -1 ≤ k ∧ k ≤ 3
    · simp [ha, hb, hk]; omega
    · simp [hk]
  · by_cases hk : -1 ≤ k ∧ k ≤ 3
    · simp [ha, hb, hk]; omega
    · simp [hk]
theorem plusX_flows {a k : Int} (ha : flowsX a = true) (hk : flowsX k = true) : flowsX (plusX a k) = true := by
  simp only [plusX, ha, hk, flowsX, decide_eq_true_eq] at *
  simp
  omega
theorem plusX_nine (k : Int) : plusX 9 k = 9 := by simp [plusX, flowsX]
theorem plusX_le (a k : Int) : plusX a k ≤ 9 := by unfold plusX; split <;> omega

/-- A way to a root, of that weight. -/
inductive Reach (es : List Ed) (rs : List Int) : Int → Int → Prop
  | root {r : Int} : r ∈ rs → Reach es rs r 0
  | step {e : Ed} {d : Int} : e ∈ es → Reach es rs e.1 d → Reach es rs e.2.1 (plusX d e.2.2)

/-- Weights: at most 0 at roots, no edge says less, and each is a way's. -/
structure Least (n : Nat) (es : List Ed) (rs : List Int) (x : Nat → Int) : Prop where
  root : ∀ r : Nat, (r : Int) ∈ rs → x r ≤ 0
  edge : ∀ (d s : Nat) k, ((d : Int), (s : Int), k) ∈ es → x s ≤ plusX (x d) k
  way : ∀ i, i < n → x i = 9 ∨ Reach es rs i (x i)

/-- May the locations, edges and roots be? -/
def RightE (n : Int) (e : Ed) : Prop := (0 ≤ e.1 ∧ e.1 < n) ∧ (0 ≤ e.2.1 ∧ e.2.1 < n) ∧ flowsX e.2.2 = true
instance (n : Int) (e : Ed) : Decidable (RightE n e) := by unfold RightE; infer_instance
def RightG (n : Int) (es : List Ed) (rs : List Int) : Prop := (0 ≤ n ∧ n ≤ 1048576) ∧ (∀ e ∈ es, RightE n e) ∧ (∀ r ∈ rs, 0 ≤ r ∧ r < n)
instance (n : Int) (es : List Ed) (rs : List Int) : Decidable (RightG n es rs) := by unfold RightG; infer_instance

theorem Reach.right {n : Int} {es : List Ed} {rs : List Int} (h : RightG n es rs) {i d : Int} (r : Reach es rs i d) : (0 ≤ i ∧ i < n) ∧ flowsX d = true := by
  induction r with
  | root hr => exact ⟨h.2.2 _ hr, by decide⟩
  | step he _ ih => exact ⟨(h.2.1 _ he).2.1, plusX_flows ih.2 (h.2.1 _ he).2.2⟩

theorem Least.le {n : Nat} {es : List Ed} {rs : List Int} {x : Nat → Int} (hr : RightG n es rs) (h : Least n es rs x) {i d : Int} (r : Reach es rs i d) : x i.toNat ≤ d := by
  induction r with
  | @root r hm =>
    have := h.root r.toNat (by have := hr.2.2 r hm; rw [Int.toNat_of_nonneg this.1]; exact hm)
    exact this
  | @step e d he hd ih =>
    have hR := hr.2.1 e he
    have h1 := h.edge e.1.toNat e.2.1.toNat e.2.2 (by rw [Int.toNat_of_nonneg hR.1.1, Int.toNat_of_nonneg hR.2.1.1]; exact he)
    refine Int.le_trans h1 ?_
    have hx : x e.1.toNat = 9 ∨ flowsX (x e.1.toNat) = true := by
      rcases h.way e.1.toNat (by have := hR.1; omega) with h | h
      · exact Or.inl h
      · exact Or.inr (h.right hr).2
    rcases hx with hx | hx
    · have := (hd.right hr).2
      simp [flowsX] at this
      omega
    · exact plusX_mono _ ih hx

theorem Least.val {n : Nat} {es : List Ed} {rs : List Int} {x : Nat → Int} (hr : RightG n es rs) (h : Least n es rs x) {i : Nat} (hi : i < n) : x i = 9 ∨ (-1 ≤ x i ∧ x i ≤ 3) := by
  rcases h.way i hi with h | h
  · exact Or.inl h
  · have := (h.right hr).2
    simp [flowsX] at this
    exact Or.inr this

/-- There is but one. -/
theorem Least.unique {n : Nat} {es : List Ed} {rs : List Int} {x y : Nat → Int} (hr : RightG n es rs) (hx : Least n es rs x) (hy : Least n es rs y) {i : Nat} (hi : i < n) : x i = y i := by
  have key : ∀ {x y : Nat → Int}, Least n es rs x → Least n es rs y → x i ≤ y i := by
    intro x y hx hy
    rcases hy.way i hi with h | h
    · rw [h]
      rcases hx.val hr hi with h | h <;> omega
    · have := hx.le hr h
      simpa using this
  exact Int.le_antisymm (key hx hy) (key hy hx)

/-- More ways, no greater weight. -/
theorem Least.mono {n : Nat} {es es' : List Ed} {rs rs' : List Int} {x y : Nat → Int} (hr : RightG n es rs) (hr' : RightG n es' rs') (hx : Least n es rs x) (hy : Least n es' rs' y) (hw : ∀ i d, Reach es rs i d → ∃ d', d' ≤ d ∧ Reach es' rs' i d') {i : Nat} (hi : i < n) : y i ≤ x i := by
  rcases hx.way i hi with h | h
  · rw [h]
    rcases hy.val hr' hi with h | h <;> omega
  · obtain ⟨d', hd, h'⟩ := hw _ _ h
    have := hy.le hr' h'
    simp at this
    omega

end Go.Proofs.Ytcjfmfddkhpfnab

namespace Go.Proofs.Ytcjfmfddkhpfnab
set_option linter.unusedVariables false
set_option linter.unusedSimpArgs false

/-! ### the plain law: edges by their Dst -/
def eg (es : List Ed) (j : Nat) : Ed := es.getD j (0, 0, 0)
def dn (es : List Ed) (j : Nat) : Nat := (eg es j).1.toNat
/-- How many of the first edges flow into a location. -/
def cnt (es : List Ed) : Nat → Nat → Nat
  | 0, _ => 0
  | i + 1, l => cnt es i l + if dn es i = l then 1 else 0
/-- Where a location's edges begin. -/
def beg (es : List Ed) : Nat → Nat
  | 0 => 0
  | l + 1 => beg es l + cnt es es.length l
/-- Where an edge comes to stand. -/
def pos (es : List Ed) (j : Nat) : Nat := beg es (dn es j + 1) - 1 - cnt es j (dn es j)

theorem cnt_mono (es : List Ed) (l : Nat) {i j : Nat} (h : i ≤ j) : cnt es i l ≤ cnt es j l := by
  induction j with
  | zero => rw [show i = 0 by omega]; exact Nat.le_refl _
  | succ j ih =>
    by_cases e : i = j + 1
    · rw [e]; exact Nat.le_refl _
    · have := ih (by omega)
      simp only [cnt]
      omega
theorem cnt_lt (es : List Ed) {i j : Nat} (h : i < j) : cnt es i (dn es i) < cnt es j (dn es i) := by
  have := cnt_mono es (dn es i) (show i + 1 ≤ j from h)
  simp only [cnt, if_true] at this
  omega
theorem beg_mono (es : List Ed) {i j : Nat} (h : i ≤ j) : beg es i ≤ beg es j := by
  induction j with
  | zero => rw [show i = 0 by omega]; exact Nat.le_refl _
  | succ j ih =>
    by_cases e : i = j + 1
    · rw [e]; exact Nat.le_refl _
    · have := ih (by omega)
      simp only [beg]
      omega
theorem cnt_hits (es : List Ed) (l : Nat) : ∀ (N k : Nat), k < cnt es N l → ∃ j, j < N ∧ dn es j = l ∧ cnt es j l = k
  | 0, k, h => by simp [cnt] at h
  | N + 1, k, h => by
    by_cases hk : k < cnt es N l
    · obtain ⟨j, h1, h2⟩ := cnt_hits es l N k hk
      exact ⟨j, by omega, h2⟩
    · simp only [cnt] at h
      split at h
      · rename_i e
        exact ⟨N, by omega, e, by omega⟩
      · omega

def sumTo (f : Nat → Nat) : Nat → Nat
  | 0 => 0
  | l + 1 => sumTo f l + f l
theorem sumTo_congr {f g : Nat → Nat} : ∀ {n : Nat}, (∀ l, l < n → f l = g l) → sumTo f n = sumTo g n
  | 0, _ => rfl
  | n + 1, h => by simp only [sumTo]; rw [sumTo_congr (fun l hl => h l (by omega)), h n (by omega)]
theorem sumTo_add (f g : Nat → Nat) : ∀ n, sumTo (fun l => f l + g l) n = sumTo f n + sumTo g n
  | 0 => rfl
  | n + 1 => by simp only [sumTo]; rw [sumTo_add f g n]; omega
theorem sumTo_zero : ∀ n, sumTo (fun _ => 0) n = 0
  | 0 => rfl
  | n + 1 => by simp only [sumTo]; rw [sumTo_zero n]
theorem sumTo_ite (d : Nat) : ∀ n, sumTo (fun l => if d = l then 1 else 0) n = if d < n then 1 else 0
  | 0 => by simp [sumTo]
  | n + 1 => by
    simp only [sumTo]
    rw [sumTo_ite d n]
    by_cases h1 : d < n
    · rw [if_pos h1, if_neg (by omega), if_pos (by omega)]
    · by_cases h2 : d = n
      · rw [if_neg h1, if_pos h2, if_pos (by omega)]
      · rw [if_neg h1, if_neg h2, if_neg (by omega)]
theorem beg_sum (es : List Ed) : ∀ n, beg es n = sumTo (cnt es es.length) n
  | 0 => rfl
  | n + 1 => by simp only [beg, sumTo]; rw [beg_sum es n]
theorem cnt_sum (es : List Ed) (n : Nat) : ∀ i, (∀ j, j < i → dn es j < n) → sumTo (cnt es i) n = i
  | 0, _ => sumTo_zero n
  | i + 1, h => by
    have e : sumTo (cnt es (i + 1)) n = sumTo (fun l => cnt es i l + if dn es i = l then 1 else 0) n := rfl
    rw [e, sumTo_add, cnt_sum es n i (fun j hj => h j (by omega)), sumTo_ite, if_pos (h i (by omega))]
theorem cnt_none (es : List Ed) (l : Nat) : ∀ i, (∀ j, j < i → dn es j ≠ l) → cnt es i l = 0
  | 0, _ => rfl
  | i + 1, h => by
    simp only [cnt]
    rw [cnt_none es l i (fun j hj => h j (by omega)), if_neg (h i (by omega))]

section
variable {n : Nat} {es : List Ed}
theorem eg_mem {j : Nat} (hj : j < es.length) : eg es j ∈ es := by
  unfold eg
  rw [List.getD_eq_getElem?_getD, List.getElem?_eq_getElem hj]
  exact List.getElem_mem hj
theorem dn_lt (hR : ∀ e ∈ es, RightE n e) {j : Nat} (hj : j < es.length) : dn es j < n ∧ ((dn es j : Nat) : Int) = (eg es j).1 := by
  have := (hR _ (eg_mem hj)).1
  unfold dn
  omega
theorem beg_all (hR : ∀ e ∈ es, RightE n e) : beg es n = es.length := by
  rw [beg_sum]
  exact cnt_sum es n es.length (fun j hj => (dn_lt hR hj).1)
theorem beg_more (hR : ∀ e ∈ es, RightE n e) : beg es (n + 1) = es.length := by
  simp only [beg]
  rw [beg_all hR, cnt_none es n es.length (fun j hj => by have := (dn_lt hR hj).1; omega)]
  rfl
theorem pos_in {j : Nat} (hj : j < es.length) : beg es (dn es j) ≤ pos es j ∧ pos es j < beg es (dn es j + 1) ∧ pos es j + 1 + cnt es j (dn es j) = beg es (dn es j + 1) := by
  have h1 := cnt_lt es hj
  have h2 : beg es (dn es j + 1) = beg es (dn es j) + cnt es es.length (dn es j) := rfl
  unfold pos
  omega
theorem pos_lt (hR : ∀ e ∈ es, RightE n e) {j : Nat} (hj : j < es.length) : pos es j < es.length := by
  have h1 := (pos_in hj).2.1
  have h2 := beg_mono es (show dn es j + 1 ≤ n from (dn_lt hR hj).1)
  rw [beg_all hR] at h2
  omega
theorem pos_ne {i j : Nat} (hj : j < i) (hi : i < es.length) : pos es j ≠ pos es i := by
  have h1 := pos_in (show j < es.length by omega)
  have h2 := pos_in hi
  rcases Nat.lt_trichotomy (dn es j) (dn es i) with h | h | h
  · have := beg_mono es (show dn es j + 1 ≤ dn es i from h)
    omega
  · have := cnt_lt es hj
    rw [h] at this h1
    omega
  · have := beg_mono es (show dn es i + 1 ≤ dn es j from h)
    omega
end

/-- Edges by their Dst: where each location's begin, and what stands there. -/
structure ByD (n : Nat) (es : List Ed) (A : Nat → Ed) (F : Nat → Nat) : Prop where
  le : ∀ l, l < n → F l ≤ F (l + 1)
  top : ∀ l, l ≤ n → F l ≤ es.length
  just : ∀ l p, l < n → F l ≤ p → p < F (l + 1) → A p ∈ es ∧ (A p).1 = l
  all : ∀ l e, l < n → e ∈ es → e.1 = (l : Nat) → ∃ p, F l ≤ p ∧ p < F (l + 1) ∧ A p = e

theorem ByD.mk' {n : Nat} {es : List Ed} {A : Nat → Ed} (hR : ∀ e ∈ es, RightE n e) (hA : ∀ j, j < es.length → A (pos es j) = eg es j) : ByD n es A (beg es) where
  le := fun l _ => beg_mono es (Nat.le_succ l)
  top := fun l hl => by have := beg_mono es hl; rw [beg_all hR] at this; exact this
  just := by
    intro l p hl h1 h2
    have h3 : beg es (l + 1) = beg es l + cnt es es.length l := rfl
    obtain ⟨j, hj, h4, h5⟩ := cnt_hits es l es.length (beg es (l + 1) - 1 - p) (by omega)
    have h6 : pos es j = p := by unfold pos; rw [h4, h5]; omega
    have h7 := hA j hj
    rw [h6] at h7
    rw [h7]
    exact ⟨eg_mem hj, by rw [← (dn_lt hR hj).2, h4]⟩
  all := by
    intro l e hl he hd
    obtain ⟨j, hj, rfl⟩ := List.getElem_of_mem he
    have e1 : eg es j = es[j] := by unfold eg; rw [List.getD_eq_getElem?_getD, List.getElem?_eq_getElem hj]; rfl
    have e2 : dn es j = l := by unfold dn; rw [e1, hd]; simp
    have h1 := pos_in hj
    rw [e2] at h1
    exact ⟨pos es j, h1.1, h1.2.1, by rw [hA j hj, e1]⟩

end Go.Proofs.Ytcjfmfddkhpfnab

namespace Go.Proofs.Ytcjfmfddkhpfnab
set_option linter.unusedVariables false
set_option linter.unusedSimpArgs false

theorem nodup_le : ∀ (n : Nat) (l : List Nat), l.Nodup → (∀ i ∈ l, i < n) → l.length ≤ n
  | 0, l, _, h => by
    cases l with
    | nil => exact Nat.le_refl _
    | cons x r => exact absurd (h x List.mem_cons_self) (Nat.not_lt_zero x)
  | n + 1, l, hn, h => by
    by_cases hm : n ∈ l
    · have h1 := nodup_le n (l.erase n) (hn.erase n) (fun i hi => by
        have := (List.Nodup.mem_erase_iff hn).1 hi
        have := h i this.2
        omega)
      rw [List.length_erase_of_mem hm] at h1
      omega
    · have := nodup_le n l hn (fun i hi => by
        have := h i hi
        by_cases e : i = n
        · exact absurd (e ▸ hi) hm
        · omega)
      omega

def addTo (l : List Nat) (s : Nat) : List Nat := if s ∈ l then l else l ++ [s]
theorem addTo_mem (l : List Nat) (s i : Nat) : i ∈ addTo l s ↔ i ∈ l ∨ i = s := by
  unfold addTo
  split
  · rename_i h
    constructor
    · exact Or.inl
    · rintro (h1 | rfl)
      · exact h1
      · exact h
  · simp
theorem addTo_nodup {l : List Nat} (h : l.Nodup) (s : Nat) : (addTo l s).Nodup := by
  unfold addTo
  split
  · exact h
  · rename_i hs
    refine List.nodup_append.2 ⟨h, by simp, fun a ha b hb => ?_⟩
    simp at hb
    subst hb
    intro e
    subst e
    exact hs ha
theorem addTo_length (l : List Nat) (s : Nat) : (addTo l s).length ≤ l.length + 1 := by
  unfold addTo
  split
  · omega
  · simp

/-- Roots are being laid down. -/
structure Ini (n : Nat) (es : List Ed) (rs : List Int) (k : Nat) (L : Nat → Int) (l : List Nat) : Prop where
  nd : l.Nodup
  lt : ∀ i ∈ l, i < n
  out : ∀ i, i ∉ l → L i = 9
  inn : ∀ i ∈ l, L i = 0 ∧ (i : Int) ∈ rs
  got : ∀ r ∈ rs.take k, r.toNat ∈ l

theorem Ini.start (n : Nat) (es : List Ed) (rs : List Int) : Ini n es rs 0 (fun _ => 9) [] :=
  ⟨List.nodup_nil, fun i h => absurd h List.not_mem_nil, fun _ _ => rfl, fun i h => absurd h List.not_mem_nil, fun r h => by simp at h⟩
theorem Ini.step {n : Nat} {es : List Ed} {rs : List Int} {k : Nat} {L : Nat → Int} {l : List Nat} (h : Ini n es rs k L l) (r : Nat) (hr : r < n) (hk : rs[k]? = some (r : Int)) : Ini n es rs (k + 1) (upd L r 0) (addTo l r) where
  nd := addTo_nodup h.nd r
  lt := fun i hi => by
    rcases (addTo_mem l r i).1 hi with h1 | rfl
    · exact h.lt i h1
    · exact hr
  out := fun i hi => by
    have := (addTo_mem l r i)
    rw [upd_ne _ _ (fun e => hi (this.2 (Or.inr e)))]
    exact h.out i (fun h1 => hi (this.2 (Or.inl h1)))
  inn := fun i hi => by
    by_cases e : i = r
    · subst e
      exact ⟨upd_same _ _ _, List.mem_of_getElem? hk⟩
    · rcases (addTo_mem l r i).1 hi with h1 | h1
      · rw [upd_ne _ _ e]; exact h.inn i h1
      · exact absurd h1 e
  got := fun q hq => by
    rw [List.take_add_one, hk] at hq
    rcases List.mem_append.1 hq with h1 | h1
    · exact (addTo_mem l r _).2 (Or.inl (h.got q h1))
    · simp at h1
      subst h1
      exact (addTo_mem l r _).2 (Or.inr (by simp))

/-- What holds while weights fall: but for the edges into a location that is being looked at, of which those with P have been. -/
structure Mid (n : Nat) (es : List Ed) (rs : List Int) (L : Nat → Int) (l : List Nat) (dst : Nat) (P : Ed → Prop) : Prop where
  nd : l.Nodup
  lt : ∀ i ∈ l, i < n
  way : ∀ i, i < n → L i = 9 ∨ Reach es rs i (L i)
  root : ∀ r : Nat, (r : Int) ∈ rs → L r ≤ 0
  edge : ∀ (d s : Nat) k, ((d : Int), (s : Int), k) ∈ es → d ∉ l → (d ≠ dst ∨ P ((d : Int), (s : Int), k)) → L s ≤ plusX (L d) k
/-- What holds between. -/
structure Inv (n : Nat) (es : List Ed) (rs : List Int) (L : Nat → Int) (l : List Nat) : Prop where
  nd : l.Nodup
  lt : ∀ i ∈ l, i < n
  way : ∀ i, i < n → L i = 9 ∨ Reach es rs i (L i)
  root : ∀ r : Nat, (r : Int) ∈ rs → L r ≤ 0
  edge : ∀ (d s : Nat) k, ((d : Int), (s : Int), k) ∈ es → d ∉ l → L s ≤ plusX (L d) k

theorem Ini.done {n : Nat} {es : List Ed} {rs : List Int} {L : Nat → Int} {l : List Nat} (h : Ini n es rs rs.length L l) : Inv n es rs L l where
  nd := h.nd
  lt := h.lt
  way := fun i _ => by
    by_cases hi : i ∈ l
    · have := h.inn i hi
      rw [this.1]
      exact Or.inr (.root this.2)
    · exact Or.inl (h.out i hi)
  root := fun r hr => by
    have := h.got r (by rw [List.take_length]; exact hr)
    simp at this
    have := (h.inn r this).1
    omega
  edge := fun d s k _ hd => by
    rw [h.out d hd, plusX_nine]
    by_cases hs : s ∈ l
    · rw [(h.inn s hs).1]; decide
    · rw [h.out s hs]; decide

theorem Inv.take {n : Nat} {es : List Ed} {rs : List Int} {L : Nat → Int} {l : List Nat} {dst : Nat} (h : Inv n es rs L (l ++ [dst])) : Mid n es rs L l dst (fun _ => False) where
  nd := (List.nodup_append.1 h.nd).1
  lt := fun i hi => h.lt i (List.mem_append_left _ hi)
  way := h.way
  root := h.root
  edge := fun d s k he hd hp => h.edge d s k he (fun hm => by
    rcases List.mem_append.1 hm with h1 | h1
    · exact hd h1
    · rcases hp with hp | hp
      · exact hp (List.mem_singleton.1 h1)
      · exact hp)
theorem Mid.stay {n : Nat} {es : List Ed} {rs : List Int} {L : Nat → Int} {l : List Nat} {dst : Nat} {P : Ed → Prop} (h : Mid n es rs L l dst P) {s : Nat} {k : Int} (hs : L s ≤ plusX (L dst) k) : Mid n es rs L l dst (fun e => P e ∨ e = ((dst : Int), (s : Int), k)) where
  nd := h.nd
  lt := h.lt
  way := h.way
  root := h.root
  edge := fun d s' k' he hd hp => by
    rcases hp with hp | hp | hp
    · exact h.edge d s' k' he hd (Or.inl hp)
    · exact h.edge d s' k' he hd (Or.inr hp)
    · simp only [Prod.mk.injEq] at hp
      obtain ⟨h1, h2, h3⟩ := hp
      have h1 : d = dst := by omega
      have h2 : s' = s := by omega
      subst h1; subst h2; subst h3
      exact hs
theorem Mid.fall {n : Nat} {es : List Ed} {rs : List Int} {L : Nat → Int} {l : List Nat} {dst : Nat} {P : Ed → Prop} (h : Mid n es rs L l dst P) {s : Nat} {k : Int} (hdst : dst < n) (hsn : s < n) (he : ((dst : Int), (s : Int), k) ∈ es) (hs : plusX (L dst) k < L s) :
    Mid n es rs (upd L s (plusX (L dst) k)) (addTo l s) dst (fun e => P e ∨ e = ((dst : Int), (s : Int), k)) where
  nd := addTo_nodup h.nd s
  lt := fun i hi => by
    rcases (addTo_mem l s i).1 hi with h1 | rfl
    · exact h.lt i h1
    · exact hsn
  way := fun i hi => by
    by_cases e : i = s
    · subst e
      rw [upd_same]
      rcases h.way dst hdst with h1 | h1
      · rw [h1, plusX_nine]; exact Or.inl rfl
      · exact Or.inr (.step (e := ((dst : Int), (i : Int), k)) he h1)
    · rw [upd_ne _ _ e]; exact h.way i hi
  root := fun r hr => by
    have := h.root r hr
    by_cases e : r = s
    · subst e; rw [upd_same]; omega
    · rw [upd_ne _ _ e]; exact this
  edge := fun d s' k' he' hd hp => by
    have hd1 : d ∉ l := fun hm => hd ((addTo_mem l s d).2 (Or.inl hm))
    have hd2 : d ≠ s := fun e => hd ((addTo_mem l s d).2 (Or.inr e))
    rw [upd_ne _ _ hd2]
    have key : (d ≠ dst ∨ P ((d : Int), (s' : Int), k')) → upd L s (plusX (L dst) k) s' ≤ plusX (L d) k' := fun hp => by
      have := h.edge d s' k' he' hd1 hp
      by_cases e : s' = s
      · subst e; rw [upd_same]; omega
      · rw [upd_ne _ _ e]; exact this
    rcases hp with hp | hp | hp
    · exact key (Or.inl hp)
    · exact key (Or.inr hp)
    · simp only [Prod.mk.injEq] at hp
      obtain ⟨h1, h2, h3⟩ := hp
      have h1 : d = dst := by omega
      have h2 : s' = s := by omega
      subst h1; subst h2; subst h3
      rw [upd_same]
      exact Int.le_refl _
theorem Mid.done {n : Nat} {es : List Ed} {rs : List Int} {L : Nat → Int} {l : List Nat} {dst : Nat} {P : Ed → Prop} (h : Mid n es rs L l dst P) (hP : ∀ e ∈ es, e.1 = (dst : Int) → P e) : Inv n es rs L l where
  nd := h.nd
  lt := h.lt
  way := h.way
  root := h.root
  edge := fun d s k he hd => h.edge d s k he hd (by
    by_cases e : d = dst
    · exact Or.inr (hP _ he (by simp [e]))
    · exact Or.inl e)
theorem Inv.least {n : Nat} {es : List Ed} {rs : List Int} {L : Nat → Int} (h : Inv n es rs L []) : Least n es rs L :=
  ⟨h.root, fun d s k he => h.edge d s k he List.not_mem_nil, h.way⟩

/-- How much may fall still. -/
def mu (n : Nat) (L : Nat → Int) (l : List Nat) : Nat := 2 * sumTo (fun i => (L i + 1).toNat) n + l.length
theorem sumTo_upd (f : Nat → Nat) (s v : Nat) : ∀ n, sumTo (upd f s v) n + (if s < n then f s else 0) = sumTo f n + (if s < n then v else 0)
  | 0 => by simp [sumTo]
  | n + 1 => by
    have ih := sumTo_upd f s v n
    simp only [sumTo]
    by_cases h1 : s < n
    · rw [if_pos h1, if_pos h1] at ih
      rw [if_pos (by omega), if_pos (by omega), upd_ne _ _ (by omega)]
      omega
    · by_cases h2 : s = n
      · subst h2
        rw [if_neg h1, if_neg h1] at ih
        rw [if_pos (by omega), if_pos (by omega), upd_same]
        omega
      · rw [if_neg h1, if_neg h1] at ih
        rw [if_neg (by omega), if_neg (by omega), upd_ne _ _ (by omega)]
        omega
theorem plusX_ge (a k : Int) : -1 ≤ plusX a k := by
  unfold plusX
  split
  · rename_i h
    simp [flowsX] at h
    omega
  · omega
theorem mu_fall {n : Nat} {L : Nat → Int} {l : List Nat} {s : Nat} {v : Int} (hs : s < n) (hv : v < L s) (h1 : -1 ≤ v) : mu n (upd L s v) (addTo l s) < mu n L l := by
  unfold mu
  have e : (fun i => (upd L s v i + 1).toNat) = upd (fun i => (L i + 1).toNat) s (v + 1).toNat := by
    funext i
    unfold upd
    split <;> rfl
  have h2 := sumTo_upd (fun i => (L i + 1).toNat) s (v + 1).toNat n
  rw [if_pos hs, if_pos hs] at h2
  rw [e]
  have h3 := addTo_length l s
  omega
theorem mu_top {n : Nat} {L : Nat → Int} {l : List Nat} (hL : ∀ i, i < n → L i ≤ 9) (hl : l.length ≤ n) : mu n L l ≤ 21 * n := by
  unfold mu
  have : ∀ m, m ≤ n → sumTo (fun i => (L i + 1).toNat) m ≤ 10 * m := by
    intro m
    induction m with
    | zero => intro _; exact Nat.le_refl _
    | succ m ih =>
      intro hm
      have h1 := ih (by omega)
      have h2 := hL m (by omega)
      simp only [sumTo]
      omega
  have := this n (Nat.le_refl _)
  omega

end Go.Proofs.Ytcjfmfddkhpfnab
