import Derived.WalkKit
import Derived.WalkLawsBesides
import Derived.StillTailTactics
import Derived.Deep.RegionHeld3
import Derived.BigQuiet
import Derived.RegionCalls
import Derived.WalkSpells
import Derived.Maps.OwnSet
import Derived.Maps.AppendAt
import Derived.Deep.AppendLies
import Derived.Laws.OwnMore
import Derived.Deep.Onto
import Derived.Deep.Cut
import Derived.Test.YtihicdbplmdjiaaGreatProg
set_option linter.unusedVariables false
set_option linter.unusedSimpArgs false
namespace Go.Proofs.YtihicdbplmdjiaaGreat
open Go.RowKit (wrap32 wrap64)
open Go.Maps (Keyed)

/-- A proposition that the walk doesn't see. -/
def Hd (p : Prop) : Prop := p
theorem Hd.out {p : Prop} (h : Hd p) : p := h

abbrev vI (n : Int) : Value := .int .i64 n
abbrev In64 (k : Int) : Prop := -9223372036854775808 ≤ k ∧ k ≤ 9223372036854775807

/-- Nothing has turned but the blocks of S, and new ones. -/
structure Fr (S : Nat → Prop) (w w' : World) : Prop where
  os : w'.os = w.os
  tape : w'.tape = w.tape
  output : w'.output = w.output
  size : w.heap.size ≤ w'.heap.size
  block : ∀ k, k < w.heap.size → ¬ S k → w'.heap[k]? = w.heap[k]?

theorem Fr.refl (S : Nat → Prop) (w : World) : Fr S w w := ⟨rfl, rfl, rfl, Nat.le_refl _, fun _ _ _ => rfl⟩
theorem Fr.trans {S : Nat → Prop} {a b c : World} (h : Fr S a b) (k : Fr S b c) : Fr S a c :=
  ⟨k.os.trans h.os, k.tape.trans h.tape, k.output.trans h.output, Nat.le_trans h.size k.size, fun j hj hS => (k.block j (Nat.lt_of_lt_of_le hj h.size) hS).trans (h.block j hj hS)⟩
theorem Fr.mono {S T : Nat → Prop} {a b : World} (h : Fr S a b) (hs : ∀ k, k < a.heap.size → S k → T k) : Fr T a b :=
  ⟨h.os, h.tape, h.output, h.size, fun k hk hT => h.block k hk (fun hS => hT (hs k hk hS))⟩
theorem Fr.drew {S : Nat → Prop} {a w : World} (h : Fr S a w) : Fr S a w.drew := ⟨h.os, h.tape, h.output, h.size, h.block⟩
theorem Fr.alloc {S : Nat → Prop} {a w : World} (h : Fr S a w) (o : Obj) : Fr S a (w.alloc o) :=
  ⟨h.os, h.tape, h.output, by simp; have := h.size; omega, fun k hk hS => (Go.RowKit.Below.heap_alloc w o k (Nat.lt_of_lt_of_le hk h.size)).trans (h.block k hk hS)⟩
theorem Fr.setCell {S : Nat → Prop} {a w : World} (h : Fr S a w) (p : Addr) (v : Value) (hp : S p.block ∨ a.heap.size ≤ p.block) : Fr S a (w.setCell p v) :=
  ⟨h.os, h.tape, h.output, by simpa using h.size, fun k hk hS => by
    rw [Go.RowKit.Below.heap_setCell w p v k (by intro e; subst e; rcases hp with hp | hp; exact hS hp; omega)]; exact h.block k hk hS⟩
theorem Fr.cell {S : Nat → Prop} {w w' : World} (h : Fr S w w') {k o : Nat} (hk : k < w.heap.size) (hS : ¬ S k) : w'.cell? ⟨k, o, none⟩ = w.cell? ⟨k, o, none⟩ := World.cell?_of_block (h.block k hk hS)
theorem Fr.frozen {S : Nat → Prop} {w w' : World} (h : Fr S w w') {k o : Nat} (hk : k < w.heap.size) (hS : ¬ S k) : w'.frozen? ⟨k, o, none⟩ = w.frozen? ⟨k, o, none⟩ := by
  unfold World.frozen?; simp only [h.block k hk hS]
theorem grown_fr {w w' : World} {row : Option Nat} (h : w.grownBy w' row) : Fr (fun k => row = some k) w w' :=
  ⟨h.os, h.tape, h.output, h.size, fun k hk hS => h.block k hk (fun e => hS e.symm)⟩
/-- What is done to blocks that have come since a is nothing to a. -/
theorem Fr.under {S T : Nat → Prop} {a b c : World} (h : Fr S a b) (k : Fr T b c) (hT : ∀ j, T j → a.heap.size ≤ j) : Fr S a c :=
  ⟨k.os.trans h.os, k.tape.trans h.tape, k.output.trans h.output, Nat.le_trans h.size k.size, fun j hj hS => (k.block j (Nat.lt_of_lt_of_le hj h.size) (fun t => by have := hT j t; omega)).trans (h.block j hj hS)⟩

theorem ownsRow_fr {S : Nat → Prop} {w w' : World} {B e size n : Nat} {v : Value} {xs : List Value} (h : w.ownsRow B e size v n xs) (f : Fr S w w') (hS : ∀ g, v.ownBlock = some g → ¬ S g) : w'.ownsRow B e size v n xs := by
  refine ⟨h.1, ?_⟩
  rcases h.2 with h2 | ⟨g, cap, cur, rfl, h3, h4, h5⟩
  · exact Or.inl h2
  · exact Or.inr ⟨g, cap, cur, rfl, h3, by rw [f.block g ((Array.getElem?_eq_some_iff.1 h4).1) (hS g rfl)]; exact h4, h5⟩

theorem ownsMap_fr {H : Type} {S : Nat → Prop} {w w' : World} {P : Program} {k : TypeId} {R : Value → Option (DataW H × List MemPlace)} {b n : Nat} {D : DataW H} (h : w.ownsMap P k R b n D) (f : Fr S w w') (hS : ¬ S b) : w'.ownsMap P k R b n D := by
  have hlt := h.lt
  obtain ⟨es, clock, hb, F, hs, hD⟩ := h
  exact ⟨es, clock, (f.block b hlt hS).trans hb, F, hs, hD⟩

theorem mixed : Tryz.prog.follows .mixedOrders = true := by kernel_rfl
theorem heap_alloc_last (w : World) (o : Obj) : (w.alloc o).heap[w.heap.size]? = some o := (MapKept.heap_alloc w o).1
theorem heap_lt {w : World} {k : Nat} {o : Obj} (h : w.heap[k]? = some o) : k < w.heap.size := (Array.getElem?_eq_some_iff.1 h).1
theorem cell_of {w : World} {k : Nat} {cs : Array Value} {t : TypeId} (h : w.heap[k]? = some (.cells cs t)) (o : Nat) : w.cell? ⟨k, o, none⟩ = cs[o]? := by
  unfold World.cell?; rw [h]; simp
theorem frozen_of {w : World} {k : Nat} {cs : Array Value} {t : TypeId} (h : w.heap[k]? = some (.cells cs t)) (o : Nat) : w.frozen? ⟨k, o, none⟩ = false := by
  unfold World.frozen?; rw [h]; simp
theorem set_of {w : World} {k : Nat} {cs : Array Value} {t : TypeId} (h : w.heap[k]? = some (.cells cs t)) (o : Nat) (v : Value) : (w.setCell ⟨k, o, none⟩ v).heap[k]? = some (.cells (cs.setIfInBounds o v) t) := by
  unfold World.setCell
  simp only [Array.getElem?_modify]
  rw [if_pos trivial, h]
  rfl
theorem cell_lt {w : World} {k o : Nat} {v : Value} (h : w.cell? ⟨k, o, none⟩ = some v) : k < w.heap.size := by
  unfold World.cell? at h
  by_cases e : k < w.heap.size
  · exact e
  · have : w.heap[k]? = none := by simp; omega
    rw [this] at h
    simp at h

/-! ### rows, replies, calls -/
/-- Cells that lie one behind the other. -/
def RowAt (w : World) (v : Value) (xs : List Value) : Prop :=
  ∃ ad cap, v = .slice ad xs.length cap ∧ (xs ≠ [] → ∃ g o, ad = some ⟨g, o, none⟩ ∧ ∀ i (h : i < xs.length), w.cell? ⟨g, o + i, none⟩ = some xs[i])
theorem RowAt.fr {w w' : World} {v : Value} {xs : List Value} (h : RowAt w v xs) {S : Nat → Prop} (f : Fr S w w') (hS : ∀ j, v.ownBlock = some j → j < w.heap.size → ¬ S j) : RowAt w' v xs := by
  obtain ⟨ad, cap, e, hx⟩ := h
  refine ⟨ad, cap, e, fun hne => ?_⟩
  obtain ⟨g, o, ea, hcs⟩ := hx hne
  exact ⟨g, o, ea, fun i hi => (f.cell (cell_lt (hcs i hi)) (hS g (by rw [e, ea]; rfl) (cell_lt (hcs i hi)))).trans (hcs i hi)⟩
theorem RowAt.nil (w : World) : RowAt w (.slice none 0 0) [] := ⟨none, 0, rfl, fun h => absurd rfl h⟩

/-- A reply. -/
structure Rpl where
  ok : Bool
  val : ByteArray
  keys : List Int
  vals : List ByteArray
/-- A reply, with its lists as they lie. -/
structure RV where
  r : Rpl
  kv : Value
  vv : Value
def RV.At (w : World) (R : RV) : Prop := RowAt w R.kv (R.r.keys.map vI) ∧ RowAt w R.vv (R.r.vals.map .string)
theorem RV.At.fr {w w' : World} {R : RV} (h : R.At w) (f : Fr (fun _ => False) w w') : R.At w' := ⟨h.1.fr f (fun _ _ _ e => e), h.2.fr f (fun _ _ _ e => e)⟩
def rv0 : RV := ⟨⟨false, ⟨#[]⟩, [], []⟩, .slice none 0 0, .slice none 0 0⟩
theorem rv0_at (w : World) : rv0.At w := ⟨RowAt.nil w, RowAt.nil w⟩
/-- A call of a history: where it begins and ends, what it is, what was answered. -/
structure Cl where
  b : Nat
  e : Nat
  kd : Int
  ky : Int
  v : ByteArray
  R : RV
def c9 (c : Cl) : List Value := [vI c.b, vI c.e, vI c.kd, vI c.ky, .string c.v, .bool c.R.r.ok, .string c.R.r.val, c.R.kv, c.R.vv]
def Cl.V (c : Cl) : Value := .agg (c9 c).toArray
def RV.V (R : RV) : Value := .agg #[.bool R.r.ok, .string R.r.val, R.kv, R.vv]
def opV (kd ky : Int) (v : ByteArray) : Value := .agg #[vI kd, vI ky, .string v]
end Go.Proofs.YtihicdbplmdjiaaGreat
namespace Go.Proofs.YtihicdbplmdjiaaGreat
open Go.RowKit (wrap32 wrap64)

/-! ### the search of a key -/
theorem nan69 (x : Int) (w : World) : Calls Tryz.prog 87 #[vI x] w fun e w' => e = .returned (.bool false) ∧ w' = w := by
  go_enter Tryz.func87, Tryz.ntmps87
  go_wp2
  go_ret
  exact ⟨by simp, rfl⟩
theorem nan68 (x : Int) (w : World) : Calls Tryz.prog 110 #[vI x] w fun e w' => e = .returned (.bool false) ∧ w' = w := by
  go_enter Tryz.func110, Tryz.ntmps110
  go_wp2
  go_ret
  exact ⟨by simp, rfl⟩
set_option maxHeartbeats 1000000 in
theorem less67 (x y : Int) (w : World) : Calls Tryz.prog 109 #[vI x, vI y] w fun e w' => e = .returned (.bool (decide (x < y))) ∧ w' = w := by
  go_enter Tryz.func109, Tryz.ntmps109
  go_wp2_with (go_at_call 87; refine (nan69 _ _).mono ?_; rintro e w' ⟨rfl, rfl⟩)
  go_ret
  exact ⟨rfl, rfl⟩

/-- Each key is below the next. -/
def Rises (l : List Int) : Prop := ∀ i j (hj : j < l.length), (hi : i < j) → l[i] < l[j]

set_option maxRecDepth 100000 in
set_option maxHeartbeats 4000000 in
theorem search_any (v : Value) (zs : List Int) (x : Int) (w : World) (h : RowAt w v (zs.map vI)) (hs : Rises zs) (hl : zs.length ≤ 1000000000000000000) :
    Calls Tryz.prog 88 #[v, vI x] w fun e w' => ∃ p : Int, e = .returned (.tuple #[vI p, .bool (decide (x ∈ zs))]) ∧ Fr (fun _ => False) w w' := by
  obtain ⟨ad, cap, rfl, h1⟩ := h
  simp only [List.length_map] at h1 ⊢
  obtain ⟨n, hn⟩ : ∃ n, n = zs.length := ⟨_, rfl⟩
  have HN : Hd (n = zs.length ∧ Rises zs) := ⟨hn, hs⟩
  have H1 : Hd (0 < zs.length → ∃ k o, ad = some ⟨k, o, none⟩ ∧ ∀ j (h : j < zs.length), w.cell? ⟨k, o + j, none⟩ = some (vI zs[j])) := fun hz => by
    obtain ⟨k, o, e1, e3⟩ := h1 (by intro e; rw [List.map_eq_nil_iff] at e; subst e; simp at hz)
    exact ⟨k, o, e1, fun j hj => by rw [e3 j (by simpa using hj)]; simp⟩
  rw [← hn] at hl ⊢
  clear h1 hn hs
  go_enter Tryz.func88, Tryz.ntmps88
  go_wp2_with fail
  go_loopw [7, 8] (fun v7 v8 wr => ∃ i j : Nat, v7 = vI i ∧ v8 = vI j ∧ i ≤ j ∧ j ≤ n ∧ Hd (Fr (fun _ => False) w wr ∧ (∀ t (h : t < zs.length), t < i → zs[t] < x) ∧ ∀ t (h : t < zs.length), j ≤ t → x ≤ zs[t])) (fun v7 v8 _ => match v7, v8 with | .int _ a, .int _ b => b.toNat - a.toNat | _, _ => 0)
  case atStart => exact ⟨0, n, rfl, rfl, by omega, by omega, Fr.refl _ _, fun t _ ht => absurd ht (by omega), fun t h1 h2 => absurd h1 (by have := HN.out.1; omega)⟩
  case round =>
    obtain ⟨i, j, rfl, rfl, hij, hj, HF⟩ := hrel
    by_cases hlt : i < j
    · have hm : (i + j) / 2 < zs.length := by have := HN.out.1; omega
      obtain ⟨k1, o1, rfl, hc1⟩ := H1.out (by omega)
      have d1 : wr.cell? ⟨k1, o1 + (i + j) / 2, none⟩ = some (vI zs[(i + j) / 2]) := (HF.out.1.cell (cell_lt (hc1 _ hm)) (fun h => h)).trans (hc1 _ hm)
      obtain ⟨y, hy⟩ : ∃ y, y = zs[(i + j) / 2] := ⟨_, rfl⟩
      rw [← hy] at d1
      have HY : Hd (∃ h : (i + j) / 2 < zs.length, y = zs[(i + j) / 2]) := ⟨hm, hy⟩
      clear hc1 H1 hm hy
      by_cases hyx : y < x
      · go_wp2_with (go_at_call 109; refine (less67 _ _ _).mono ?_; rintro e w' ⟨rfl, rfl⟩)
        refine ⟨⟨(i + j) / 2 + 1, j, by rw [show ((i : Int) + (j : Int)) / 2 + 1 = (((i + j) / 2 + 1 : Nat) : Int) by omega], rfl, by omega, hj, HF.out.1, fun t h ht => ?_, HF.out.2.2⟩, ?_⟩
        · obtain ⟨hm, hy⟩ := HY.out
          rcases Nat.lt_or_ge t ((i + j) / 2) with h2 | h2
          · have := HN.out.2 t ((i + j) / 2) (by have := HN.out.1; omega) h2
            omega
          · have e : t = (i + j) / 2 := by omega
            subst e
            omega
        · simp
          omega
      · go_wp2_with (go_at_call 109; refine (less67 _ _ _).mono ?_; rintro e w' ⟨rfl, rfl⟩)
        refine ⟨⟨i, (i + j) / 2, rfl, by rw [show ((i : Int) + (j : Int)) / 2 = (((i + j) / 2 : Nat) : Int) by omega], by omega, by omega, HF.out.1, HF.out.2.1, fun t h ht => ?_⟩, ?_⟩
        · obtain ⟨hm, hy⟩ := HY.out
          rcases Nat.lt_or_ge ((i + j) / 2) t with h2 | h2
          · have := HN.out.2 ((i + j) / 2) t h h2
            omega
          · have e : t = (i + j) / 2 := by omega
            subst e
            omega
        · simp
          omega
    · have e1 : i = j := by omega
      subst e1
      by_cases hin : i < n
      · have hm : i < zs.length := by have := HN.out.1; omega
        obtain ⟨k1, o1, rfl, hc1⟩ := H1.out (by omega)
        have d1 : wr.cell? ⟨k1, o1 + i, none⟩ = some (vI zs[i]) := (HF.out.1.cell (cell_lt (hc1 _ hm)) (fun h => h)).trans (hc1 _ hm)
        have HX : Hd (decide (zs[i] = x) = decide (x ∈ zs)) := by
          show decide (zs[i] = x) = decide (x ∈ zs)
          refine decide_eq_decide.2 ⟨fun e => e ▸ List.getElem_mem hm, fun e => ?_⟩
          obtain ⟨t, ht, e⟩ := List.mem_iff_getElem.1 e
          rcases Nat.lt_trichotomy t i with h2 | h2 | h2
          · have := HF.out.2.1 t ht h2
            omega
          · subst h2
            exact e
          · have := HF.out.2.2 i hm (by omega)
            have := HN.out.2 i t ht h2
            omega
        obtain ⟨y, hy⟩ : ∃ y, y = zs[i] := ⟨_, rfl⟩
        rw [← hy] at d1 HX
        clear hc1 H1 hm hy
        by_cases hyx : y = x
        · go_wp2_with fail
          go_ret2
          refine ⟨i, by rw [← HX.out]; simp [hyx], HF.out.1⟩
        · go_wp2_with (go_at_call 110; refine (nan68 _ _).mono ?_; rintro e w' ⟨rfl, rfl⟩)
          go_ret2
          refine ⟨i, by rw [← HX.out]; simp [hyx], HF.out.1⟩
      · have HX : Hd (decide (x ∈ zs) = false) := by
          show decide (x ∈ zs) = false
          refine decide_eq_false (fun e => ?_)
          obtain ⟨t, ht, e⟩ := List.mem_iff_getElem.1 e
          have := HF.out.2.1 t ht (by have := HN.out.1; omega)
          omega
        go_wp2_with fail
        go_ret2
        exact ⟨i, by rw [HX.out]; rfl, HF.out.1⟩
end Go.Proofs.YtihicdbplmdjiaaGreat
