import Derived.Test.YtjmbfjaahadbhaaGreatDoorQM1J
import Derived.Test.YtjmbfjaahadbhaaGreatDoorQA2
set_option linter.unusedVariables false
set_option linter.unusedSimpArgs false
namespace Go.Proofs.YtjmbfjaahadbhaaGreatDoor
open Go.RowKit (wrap32 wrap64)

/-- Nothing has turned but the blocks of S, and new ones. -/
structure Fr (S : Nat → Prop) (w w' : World) : Prop where
  os : w'.os = w.os
  tape : w'.tape = w.tape
  output : w'.output = w.output
  size : w.heap.size ≤ w'.heap.size
  block : ∀ k, k < w.heap.size → ¬ S k → w'.heap[k]? = w.heap[k]?

theorem Fr.refl (S : Nat → Prop) (w : World) : Fr S w w := ⟨rfl, rfl, rfl, Nat.le_refl _, fun _ _ _ => rfl⟩
theorem Fr.trans {S : Nat → Prop} {a b c : World} (h : Fr S a b) (k : Fr S b c) : Fr S a c :=
  ⟨k.os.trans h.os, k.tape.trans h.tape, k.output.trans h.output, Nat.le_trans h.size k.size, fun j hj hS => (k.block j (Nat.lt_of_lt_of_le hj h.size) hS).trans (h.block j hj hS)⟩
theorem Fr.mono {S T : Nat → Prop} {a b : World} (h : Fr S a b) (hs : ∀ k, k < a.heap.size → S k → T k) : Fr T a b :=
  ⟨h.os, h.tape, h.output, h.size, fun k hk hT => h.block k hk (fun hS => hT (hs k hk hS))⟩
theorem Fr.drew {S : Nat → Prop} {a w : World} (h : Fr S a w) : Fr S a w.drew := ⟨h.os, h.tape, h.output, h.size, h.block⟩
theorem Fr.alloc {S : Nat → Prop} {a w : World} (h : Fr S a w) (o : Obj) : Fr S a (w.alloc o) :=
  ⟨h.os, h.tape, h.output, by simp; have := h.size; omega, fun k hk hS => (Go.RowKit.Below.heap_alloc w o k (Nat.lt_of_lt_of_le hk h.size)).trans (h.block k hk hS)⟩
theorem Fr.setCell {S : Nat → Prop} {a w : World} (h : Fr S a w) (p : Addr) (v : Value) (hp : S p.block ∨ a.heap.size ≤ p.block) : Fr S a (w.setCell p v) :=
  ⟨h.os, h.tape, h.output, by simpa using h.size, fun k hk hS => by
    rw [Go.RowKit.Below.heap_setCell w p v k (by intro e; subst e; rcases hp with hp | hp; exact hS hp; omega)]; exact h.block k hk hS⟩
theorem Fr.cell {S : Nat → Prop} {w w' : World} (h : Fr S w w') {k o : Nat} (hk : k < w.heap.size) (hS : ¬ S k) : w'.cell? ⟨k, o, none⟩ = w.cell? ⟨k, o, none⟩ := World.cell?_of_block (h.block k hk hS)
theorem Fr.frozen {S : Nat → Prop} {w w' : World} (h : Fr S w w') {k o : Nat} (hk : k < w.heap.size) (hS : ¬ S k) : w'.frozen? ⟨k, o, none⟩ = w.frozen? ⟨k, o, none⟩ := World.frozen?_of_block (h.block k hk hS)

/-- The walk's block. -/
def Lies (w : World) (b : Nat) (s : WS) : Prop := w.heap[b]? = some (.cells s.cells 102)

theorem Lies.lt {w : World} {b : Nat} {s : WS} (h : Lies w b s) : b < w.heap.size := (Array.getElem?_eq_some_iff.1 h).1
theorem Lies.cell {w : World} {b : Nat} {s : WS} (h : Lies w b s) (o : Nat) : w.cell? ⟨b, o, none⟩ = s.cells[o]? := by
  unfold World.cell?; rw [show w.heap[b]? = _ from h]; simp
theorem Lies.frozen {w : World} {b : Nat} {s : WS} (h : Lies w b s) (o : Nat) : w.frozen? ⟨b, o, none⟩ = false := by
  unfold World.frozen?; rw [show w.heap[b]? = _ from h]; simp

theorem Lies.alloc {w : World} {b : Nat} {s : WS} (h : Lies w b s) (o : Obj) : Lies (w.alloc o) b s := by
  unfold Lies; rw [Go.RowKit.Below.heap_alloc w o b h.lt]; exact h
theorem Lies.drew {w : World} {b : Nat} {s : WS} (h : Lies w b s) : Lies w.drew b s := h
theorem Lies.other {w : World} {b : Nat} {s : WS} (h : Lies w b s) (p : Addr) (v : Value) (hp : b ≠ p.block) : Lies (w.setCell p v) b s := by
  unfold Lies; rw [Go.RowKit.Below.heap_setCell w p v b hp]; exact h
theorem Lies.setCell {w : World} {b : Nat} {s s' : WS} (h : Lies w b s) (o : Nat) (v : Value) (e : s.cells.setIfInBounds o v = s'.cells) : Lies (w.setCell ⟨b, o, none⟩ v) b s' := by
  have h' : w.heap[b]? = some (.cells s.cells 102) := h
  have hb := h.lt
  unfold Lies World.setCell
  simp only [Array.getElem?_modify]
  rw [if_pos trivial, h']
  simp [e]
theorem Lies.fr {S : Nat → Prop} {w w' : World} {b : Nat} {s : WS} (h : Lies w b s) (f : Fr S w w') (hS : ¬ S b) : Lies w' b s := by
  unfold Lies; rw [f.block b h.lt hS]; exact h

/-- The fields as the walk asks for them. -/
theorem Lies.facts {w : World} {b : Nat} {s : WS} (h : Lies w b s) :
    w.cell? ⟨b, 0, none⟩ = some s.num ∧ w.cell? ⟨b, 1, none⟩ = some (vI s.at') ∧ w.cell? ⟨b, 146, none⟩ = some (vI s.globals) ∧ w.cell? ⟨b, 147, none⟩ = some s.funcs ∧
    w.cell? ⟨b, 148, none⟩ = some (vI s.locs) ∧ w.cell? ⟨b, 149, none⟩ = some (vI s.fP) ∧ w.cell? ⟨b, 150, none⟩ = some (vI s.fR) ∧ w.cell? ⟨b, 151, none⟩ = some (vI s.fV) ∧
    w.cell? ⟨b, 152, none⟩ = some s.fC ∧ w.cell? ⟨b, 153, none⟩ = some (vI s.len) ∧ w.cell? ⟨b, 154, none⟩ = some (vI s.op) ∧ w.cell? ⟨b, 155, none⟩ = some (vI s.r) ∧
    w.cell? ⟨b, 156, none⟩ = some (vI s.s) ∧ w.cell? ⟨b, 157, none⟩ = some (vI s.t) ∧ w.cell? ⟨b, 158, none⟩ = some (vI s.n) ∧ w.cell? ⟨b, 159, none⟩ = some s.args ∧
    w.cell? ⟨b, 160, none⟩ = some s.rets ∧ w.cell? ⟨b, 161, none⟩ = some (vI s.count) := by
  simp only [h.cell]
  refine ⟨?_, ?_, ?_, ?_, ?_, ?_, ?_, ?_, ?_, ?_, ?_, ?_, ?_, ?_, ?_, ?_, ?_, ?_⟩ <;> kernel_rfl

/-- The places that numbers are brought to. -/
def WS.set (s : WS) (o : Nat) (v : Int) : WS :=
  if o = 146 then { s with globals := v } else if o = 149 then { s with fP := v } else if o = 150 then { s with fR := v } else if o = 151 then { s with fV := v }
  else if o = 153 then { s with len := v } else if o = 154 then { s with op := v } else if o = 155 then { s with r := v } else if o = 156 then { s with s := v }
  else if o = 157 then { s with t := v } else if o = 158 then { s with n := v } else { s with count := v }

def places : List Nat := [146, 149, 150, 151, 153, 154, 155, 156, 157, 158, 161]

theorem cells_set (s : WS) (o : Nat) (v : Int) (h : o ∈ places) : s.cells.setIfInBounds o (vI v) = (s.set o v).cells := by
  simp only [places, List.mem_cons, List.not_mem_nil, or_false] at h
  rcases h with rfl | rfl | rfl | rfl | rfl | rfl | rfl | rfl | rfl | rfl | rfl <;> kernel_rfl

theorem cells_at (s : WS) (v : Int) : s.cells.setIfInBounds 1 (vI v) = { s with at' := v }.cells := by kernel_rfl

def WS.get (s : WS) (o : Nat) : Int :=
  if o = 146 then s.globals else if o = 149 then s.fP else if o = 150 then s.fR else if o = 151 then s.fV else if o = 153 then s.len else if o = 154 then s.op else if o = 155 then s.r else if o = 156 then s.s else if o = 157 then s.t else if o = 158 then s.n else s.count

theorem cells_get (s : WS) (o : Nat) (h : o ∈ places) : s.cells[o]? = some (vI (s.get o)) := by
  simp only [places, List.mem_cons, List.not_mem_nil, or_false] at h
  rcases h with rfl | rfl | rfl | rfl | rfl | rfl | rfl | rfl | rfl | rfl | rfl <;> kernel_rfl

/-- The bytes that are read, apart from block b. -/
def BytesOf (b : Nat) (w : World) (v : Value) (bs : List UInt8) : Prop :=
  bs.length ≤ 1000000000000000 ∧ ∃ a c, v = .slice a bs.length c ∧ bs.length ≤ c ∧
    (bs ≠ [] → ∃ k o, a = some ⟨k, o, none⟩ ∧ k < w.heap.size ∧ k ≠ b ∧ ∀ i, (h : i < bs.length) → w.cell? ⟨k, o + i, none⟩ = some (.int .u8 bs[i].toNat))

theorem BytesOf.plain {b : Nat} {w : World} {v : Value} {bs : List UInt8} (h : BytesOf b w v bs) : BytesIn w v bs := by
  obtain ⟨h1, a, c, h2, h3, h4⟩ := h
  exact ⟨h1, a, c, h2, h3, fun hne => let ⟨k, o, e, hk, _, hc⟩ := h4 hne; ⟨k, o, e, hk, hc⟩⟩
theorem BytesOf.fr {S : Nat → Prop} {b : Nat} {w w' : World} {v : Value} {bs : List UInt8} (h : BytesOf b w v bs) (f : Fr S w w') (hS : ∀ k, S k → k < w.heap.size → k = b) : BytesOf b w' v bs := by
  obtain ⟨h1, a, c, h2, h3, h4⟩ := h
  refine ⟨h1, a, c, h2, h3, fun hne => ?_⟩
  obtain ⟨k, o, e, hk, hb, hc⟩ := h4 hne
  exact ⟨k, o, e, Nat.lt_of_lt_of_le hk f.size, hb, fun i hi => (f.cell hk (fun h => hb (hS k h hk))).trans (hc i hi)⟩

/-! ## Modes: where the numbers come from, or go to -/
abbrev X := Except (Int × Int)

def adv (p : Int) (size : Nat) : Int := IntKind.i64.wrap (p + size)

def szs : List Nat := [0, 8, 0, 0, 0, 0, 1, 1, 1, 1, 1, 2, 0, 2, 2, 0, 0, 0]

/-- The table of sizes: the package's variable. -/
def Tab (w : World) : Prop := ∀ op, op < 18 → w.cell? ⟨0, op, none⟩ = some (vI (szs.getD op 0 : Nat))

theorem Tab.fr {S : Nat → Prop} {w w' : World} (h : Tab w) (f : Fr S w w') (h0 : ¬ S 0) : Tab w' := fun op ho => by
  have hlt : 0 < w.heap.size := by
    have := h 0 (by omega)
    unfold World.cell? at this
    by_cases hk : 0 < w.heap.size
    · exact hk
    · simp [Array.getElem?_eq_none (Nat.le_of_not_lt hk)] at this
  rw [f.cell hlt h0]; exact h op ho

structure Mode (b : Nat) where
  σ : Type
  S : Nat → Prop
  N : Nat → Prop
  fn : Value
  I : σ → Int → World → Prop
  eff : σ → Int → Nat → Int → X (Int × σ)
  tab : ∀ st p w, I st p w → Tab w
  stable : ∀ st p w w', I st p w → Fr (· = b) w w' → I st p w'

def Mode.SB {b : Nat} (M : Mode b) (k : Nat) : Prop := k = b ∨ M.S k

/-- The walk lies in block b, and the mode's own things as they must. -/
def On {b : Nat} (M : Mode b) (w : World) (x : WS × M.σ) : Prop := Lies w b x.1 ∧ x.1.num = M.fn ∧ M.I x.2 x.1.at' w

theorem On.fr {b : Nat} {M : Mode b} {w w' : World} {x : WS × M.σ} {s' : WS} (h : On M w x) (f : Fr (· = b) w w') (hl : Lies w' b s') (hn : s'.num = x.1.num) (ha : s'.at' = x.1.at') : On M w' (s', x.2) :=
  ⟨hl, hn.trans h.2.1, by rw [ha]; exact M.stable _ _ _ _ h.2.2 f⟩

/-- How a call ends that gives nothing back but the walk. -/
def Ends {b : Nat} (M : Mode b) (w : World) (r : X (WS × M.σ)) (e : Ending) (w' : World) : Prop :=
  Fr M.SB w w' ∧ match r with
    | .ok y => e = .returned (.tuple #[]) ∧ On M w' y
    | .error x => e = .panicked (viol x.1 x.2)

def nextX {b : Nat} (M : Mode b) (o size : Nat) (x : WS × M.σ) : X (WS × M.σ) :=
  match M.eff x.2 x.1.at' size (x.1.get o) with
  | .ok (v, st) => .ok ({ x.1.set o v with at' := adv x.1.at' size }, st)
  | .error z => .error z

/-- What is asked of 'next', at the walk's own places. -/
def NextOwn {b : Nat} (M : Mode b) : Prop := ∀ (o : Nat), o ∈ places → ∀ (x : WS × M.σ) (size : Nat) (w : World), On M w x → 1 ≤ size → size ≤ 8 →
  Calls Tryz.prog 88 #[.pointer (some ⟨b, 0, none⟩), .pointer (some ⟨b, o, none⟩), .int .i64 size] w fun e w' => Fr M.SB w w' ∧
    match nextX M o size x with
    | .ok y => e = .returned (vI x.1.at') ∧ On M w' y
    | .error z => e = .panicked (viol z.1 z.2)


theorem wrap_small (x : Int) (h : -1000000000000000000 ≤ x) (h' : x ≤ 1000000000000000000) : IntKind.i64.wrap x = x := by
  rw [IntKind.wrap_i64]; omega

theorem cell_lt {w : World} {k o : Nat} {u : Value} (h : w.cell? ⟨k, o, none⟩ = some u) : k < w.heap.size := by
  unfold World.cell? at h
  by_cases hk : k < w.heap.size
  · exact hk
  · simp [Array.getElem?_eq_none (Nat.le_of_not_lt hk)] at h


theorem mixed : Tryz.prog.follows .mixedOrders = true := by kernel_rfl

set_option maxRecDepth 100000 in
set_option maxHeartbeats 1000000 in
theorem numberN_own {b : Nat} (M : Mode b) (hN : NextOwn M) (x : WS × M.σ) (w : World) (h : On M w x) (op size : Nat) (hop : x.1.op = op) (hlt : op < 18) (hsz : szs.getD op 0 = size) (hs1 : 1 ≤ size) (hs8 : size ≤ 8) :
    Calls Tryz.prog 98 #[.pointer (some ⟨b, 0, none⟩), .pointer (some ⟨b, 158, none⟩)] w fun e w' => Fr M.SB w w' ∧
    match nextX M 158 size x with
    | .ok y => e = .returned (vI x.1.at') ∧ On M w' y
    | .error z => e = .panicked (viol z.1 z.2) := by
  have hc : w.cell? ⟨b, 154, none⟩ = some (vI op) := by rw [h.1.cell, ← hop]; kernel_rfl
  have hT : w.cell? ⟨0, op, none⟩ = some (vI (size : Nat)) := by rw [M.tab _ _ _ h.2.2 op hlt, hsz]
  have hlt' : 0 ≤ (op : Int) ∧ (op : Int) < 18 := by omega
  clear hsz
  cases hx : nextX M 158 size x with
  | error z =>
    go_enter Tryz.func98, Tryz.ntmps98
    go_wp2_with fail
    refine (hN 158 (by simp [places]) x size w h hs1 hs8).mono ?_
    rintro e w1 ⟨hf, hres⟩
    simp only [hx] at hres
    subst hres
    go_wp2_with fail
    exact ⟨rfl, hf, rfl⟩
  | ok y =>
    go_enter Tryz.func98, Tryz.ntmps98
    go_wp2_with fail
    refine (hN 158 (by simp [places]) x size w h hs1 hs8).mono ?_
    rintro e w1 ⟨hf, hres⟩
    simp only [hx] at hres
    obtain ⟨rfl, hon⟩ := hres
    go_wp2_with fail
    go_ret
    exact ⟨hf, rfl, hon⟩

/-- A number is brought and asked. -/
def askX {b : Nat} (M : Mode b) (o size : Nat) (c : WS → Bool) (er : Int) (x : WS × M.σ) : X (WS × M.σ) :=
  match nextX M o size x with
  | .ok y => if c y.1 then .ok y else .error (er, x.1.at')
  | .error z => .error z

theorem nextX_num {b : Nat} {M : Mode b} {o size : Nat} {x y : WS × M.σ} (h : nextX M o size x = .ok y) : ∃ v st, y = ({ x.1.set o v with at' := adv x.1.at' size }, st) := by
  unfold nextX at h
  split at h
  · rename_i v st _
    exact ⟨v, st, (Except.ok.inj h).symm⟩
  · cases h

theorem On.drew {b : Nat} {M : Mode b} {w : World} {x : WS × M.σ} (h : On M w x) : On M w.drew x :=
  ⟨h.1, h.2.1, M.stable _ _ _ _ h.2.2 (Fr.refl _ _).drew⟩

theorem get_cell {w : World} {b o : Nat} {s : WS} (h : Lies w b s) (ho : o ∈ places) : w.cell? ⟨b, o, none⟩ = some (vI (s.get o)) := by rw [h.cell, cells_get s o ho]

set_option maxRecDepth 100000 in
set_option maxHeartbeats 1000000 in
theorem variable_own {b : Nat} (M : Mode b) (hN : NextOwn M) (x : WS × M.σ) (w : World) (h : On M w x) (o : Nat) (hop : o ∈ places) :
    Calls Tryz.prog 78 #[.pointer (some ⟨b, 0, none⟩), .pointer (some ⟨b, o, none⟩)] w (Ends M w (askX M o 1 (fun s => decide (0 ≤ s.get o ∧ s.get o ≤ IntKind.i64.wrap (s.fV - 1))) 13 x)) := by
  cases hx : nextX M o 1 x with
  | error z =>
    simp only [askX, hx]
    go_enter Tryz.func78, Tryz.ntmps78
    go_wp2_with fail
    refine (hN o hop x 1 _ h (by omega) (by omega)).mono ?_
    rintro e w1 ⟨hf, hres⟩
    simp only [hx] at hres
    subst hres
    go_wp2_with fail
    exact ⟨rfl, hf, rfl⟩
  | ok y =>
    by_cases hm : decide (0 ≤ y.1.get o ∧ y.1.get o ≤ IntKind.i64.wrap (y.1.fV - 1)) = true
    · have hm' : decide (0 ≤ y.1.get o ∧ y.1.get o ≤ IntKind.i64.wrap (y.1.fV - 1)) = true := by simpa using hm
      simp only [askX, hx, hm', if_true, Bool.false_eq_true, if_false]
      go_enter Tryz.func78, Tryz.ntmps78
      go_wp2_with fail
      refine (hN o hop x 1 _ h (by omega) (by omega)).mono ?_
      rintro e w1 ⟨hf, hres⟩
      simp only [hx] at hres
      obtain ⟨rfl, hon⟩ := hres
      have hc := get_cell hon.1 hop
      have hcV : w1.cell? ⟨b, 151, none⟩ = some (vI y.1.fV) := hon.1.facts.2.2.2.2.2.2.2.1
      clear hx hm
      go_wp2_with fail
      refine wp_region_still_tail 11 mixed (by kernel_rfl) ?_
      simp only [List.take_succ_cons, List.take_zero, List.drop_succ_cons, List.drop_zero]
      repeat still_step
      still_call (within_any _ _ _ _)
      repeat still_step
      refine wpStill_nil ?_
      go_wp2_with fail
      refine (must_true 13 x.1.at' _).mono ?_
      rintro e w' ⟨rfl, rfl⟩
      go_wp2_with fail
      go_end0
      exact ⟨hf.drew, rfl, hon.drew⟩
    · have hm' : decide (0 ≤ y.1.get o ∧ y.1.get o ≤ IntKind.i64.wrap (y.1.fV - 1)) = false := by simpa using hm
      simp only [askX, hx, hm', if_true, Bool.false_eq_true, if_false]
      go_enter Tryz.func78, Tryz.ntmps78
      go_wp2_with fail
      refine (hN o hop x 1 _ h (by omega) (by omega)).mono ?_
      rintro e w1 ⟨hf, hres⟩
      simp only [hx] at hres
      obtain ⟨rfl, hon⟩ := hres
      have hc := get_cell hon.1 hop
      have hcV : w1.cell? ⟨b, 151, none⟩ = some (vI y.1.fV) := hon.1.facts.2.2.2.2.2.2.2.1
      clear hx hm
      go_wp2_with fail
      refine wp_region_still_tail 11 mixed (by kernel_rfl) ?_
      simp only [List.take_succ_cons, List.take_zero, List.drop_succ_cons, List.drop_zero]
      repeat still_step
      still_call (within_any _ _ _ _)
      repeat still_step
      refine wpStill_nil ?_
      go_wp2_with fail
      refine (must_false 13 x.1.at' _).mono ?_
      rintro e w' ⟨rfl, rfl⟩
      go_wp2_with fail
      exact ⟨rfl, hf.drew, rfl⟩

set_option maxRecDepth 100000 in
set_option maxHeartbeats 1000000 in
theorem fields_own {b : Nat} (M : Mode b) (hN : NextOwn M) (x : WS × M.σ) (w : World) (h : On M w x) (op size : Nat) (hop : x.1.op = op) (hlt : op < 18) (hsz : szs.getD op 0 = size) (hs1 : 1 ≤ size) (hs8 : size ≤ 8) :
    Calls Tryz.prog 80 #[.pointer (some ⟨b, 0, none⟩), .pointer (some ⟨b, 158, none⟩)] w (Ends M w (askX M 158 size (fun s => decide (1 ≤ s.n ∧ s.n ≤ 8)) 17 x)) := by
  cases hx : nextX M 158 size x with
  | error z =>
    simp only [askX, hx]
    go_enter Tryz.func80, Tryz.ntmps80
    go_wp2_with fail
    refine (numberN_own M hN x _ h op size hop hlt hsz hs1 hs8).mono ?_
    rintro e w1 ⟨hf, hres⟩
    simp only [hx] at hres
    subst hres
    go_wp2_with fail
    exact ⟨rfl, hf, rfl⟩
  | ok y =>
    by_cases hm : decide (1 ≤ y.1.n ∧ y.1.n ≤ 8) = true
    · have hm' : decide (1 ≤ y.1.n ∧ y.1.n ≤ 8) = true := by simpa using hm
      simp only [askX, hx, hm', if_true, Bool.false_eq_true, if_false]
      go_enter Tryz.func80, Tryz.ntmps80
      go_wp2_with fail
      refine (numberN_own M hN x _ h op size hop hlt hsz hs1 hs8).mono ?_
      rintro e w1 ⟨hf, hres⟩
      simp only [hx] at hres
      obtain ⟨rfl, hon⟩ := hres
      have hc : w1.cell? ⟨b, 158, none⟩ = some (vI y.1.n) := hon.1.facts.2.2.2.2.2.2.2.2.2.2.2.2.2.2.1

      clear hx hm
      go_wp2_with fail
      refine (within_any _ _ _ _).mono ?_
      rintro e w' ⟨rfl, rfl⟩
      rw [hm']
      go_wp2_with fail
      refine (must_true 17 x.1.at' _).mono ?_
      rintro e w' ⟨rfl, rfl⟩
      go_wp2_with fail
      go_end0
      exact ⟨hf, rfl, hon⟩
    · have hm' : decide (1 ≤ y.1.n ∧ y.1.n ≤ 8) = false := by simpa using hm
      simp only [askX, hx, hm', if_true, Bool.false_eq_true, if_false]
      go_enter Tryz.func80, Tryz.ntmps80
      go_wp2_with fail
      refine (numberN_own M hN x _ h op size hop hlt hsz hs1 hs8).mono ?_
      rintro e w1 ⟨hf, hres⟩
      simp only [hx] at hres
      obtain ⟨rfl, hon⟩ := hres
      have hc : w1.cell? ⟨b, 158, none⟩ = some (vI y.1.n) := hon.1.facts.2.2.2.2.2.2.2.2.2.2.2.2.2.2.1

      clear hx hm
      go_wp2_with fail
      refine (within_any _ _ _ _).mono ?_
      rintro e w' ⟨rfl, rfl⟩
      rw [hm']
      go_wp2_with fail
      refine (must_false 17 x.1.at' _).mono ?_
      rintro e w' ⟨rfl, rfl⟩
      go_wp2_with fail
      exact ⟨rfl, hf, rfl⟩

set_option maxRecDepth 100000 in
set_option maxHeartbeats 1000000 in
theorem field_own {b : Nat} (M : Mode b) (hN : NextOwn M) (x : WS × M.σ) (w : World) (h : On M w x) (op size : Nat) (hop : x.1.op = op) (hlt : op < 18) (hsz : szs.getD op 0 = size) (hs1 : 1 ≤ size) (hs8 : size ≤ 8) :
    Calls Tryz.prog 81 #[.pointer (some ⟨b, 0, none⟩), .pointer (some ⟨b, 158, none⟩)] w (Ends M w (askX M 158 size (fun s => decide (0 ≤ s.n ∧ s.n ≤ 7)) 17 x)) := by
  cases hx : nextX M 158 size x with
  | error z =>
    simp only [askX, hx]
    go_enter Tryz.func81, Tryz.ntmps81
    go_wp2_with fail
    refine (numberN_own M hN x _ h op size hop hlt hsz hs1 hs8).mono ?_
    rintro e w1 ⟨hf, hres⟩
    simp only [hx] at hres
    subst hres
    go_wp2_with fail
    exact ⟨rfl, hf, rfl⟩
  | ok y =>
    by_cases hm : decide (0 ≤ y.1.n ∧ y.1.n ≤ 7) = true
    · have hm' : decide (0 ≤ y.1.n ∧ y.1.n ≤ 7) = true := by simpa using hm
      simp only [askX, hx, hm', if_true, Bool.false_eq_true, if_false]
      go_enter Tryz.func81, Tryz.ntmps81
      go_wp2_with fail
      refine (numberN_own M hN x _ h op size hop hlt hsz hs1 hs8).mono ?_
      rintro e w1 ⟨hf, hres⟩
      simp only [hx] at hres
      obtain ⟨rfl, hon⟩ := hres
      have hc : w1.cell? ⟨b, 158, none⟩ = some (vI y.1.n) := hon.1.facts.2.2.2.2.2.2.2.2.2.2.2.2.2.2.1

      clear hx hm
      go_wp2_with fail
      refine (within_any _ _ _ _).mono ?_
      rintro e w' ⟨rfl, rfl⟩
      rw [hm']
      go_wp2_with fail
      refine (must_true 17 x.1.at' _).mono ?_
      rintro e w' ⟨rfl, rfl⟩
      go_wp2_with fail
      go_end0
      exact ⟨hf, rfl, hon⟩
    · have hm' : decide (0 ≤ y.1.n ∧ y.1.n ≤ 7) = false := by simpa using hm
      simp only [askX, hx, hm', if_true, Bool.false_eq_true, if_false]
      go_enter Tryz.func81, Tryz.ntmps81
      go_wp2_with fail
      refine (numberN_own M hN x _ h op size hop hlt hsz hs1 hs8).mono ?_
      rintro e w1 ⟨hf, hres⟩
      simp only [hx] at hres
      obtain ⟨rfl, hon⟩ := hres
      have hc : w1.cell? ⟨b, 158, none⟩ = some (vI y.1.n) := hon.1.facts.2.2.2.2.2.2.2.2.2.2.2.2.2.2.1

      clear hx hm
      go_wp2_with fail
      refine (within_any _ _ _ _).mono ?_
      rintro e w' ⟨rfl, rfl⟩
      rw [hm']
      go_wp2_with fail
      refine (must_false 17 x.1.at' _).mono ?_
      rintro e w' ⟨rfl, rfl⟩
      go_wp2_with fail
      exact ⟨rfl, hf, rfl⟩

set_option maxRecDepth 100000 in
set_option maxHeartbeats 1000000 in
theorem global_own {b : Nat} (M : Mode b) (hN : NextOwn M) (x : WS × M.σ) (w : World) (h : On M w x) (op size : Nat) (hop : x.1.op = op) (hlt : op < 18) (hsz : szs.getD op 0 = size) (hs1 : 1 ≤ size) (hs8 : size ≤ 8) :
    Calls Tryz.prog 82 #[.pointer (some ⟨b, 0, none⟩), .pointer (some ⟨b, 158, none⟩)] w (Ends M w (askX M 158 size (fun s => decide (0 ≤ s.n ∧ s.n ≤ IntKind.i64.wrap (s.globals - 1))) 18 x)) := by
  cases hx : nextX M 158 size x with
  | error z =>
    simp only [askX, hx]
    go_enter Tryz.func82, Tryz.ntmps82
    go_wp2_with fail
    refine (numberN_own M hN x _ h op size hop hlt hsz hs1 hs8).mono ?_
    rintro e w1 ⟨hf, hres⟩
    simp only [hx] at hres
    subst hres
    go_wp2_with fail
    exact ⟨rfl, hf, rfl⟩
  | ok y =>
    by_cases hm : decide (0 ≤ y.1.n ∧ y.1.n ≤ IntKind.i64.wrap (y.1.globals - 1)) = true
    · have hm' : decide (0 ≤ y.1.n ∧ y.1.n ≤ IntKind.i64.wrap (y.1.globals - 1)) = true := by simpa using hm
      simp only [askX, hx, hm', if_true, Bool.false_eq_true, if_false]
      go_enter Tryz.func82, Tryz.ntmps82
      go_wp2_with fail
      refine (numberN_own M hN x _ h op size hop hlt hsz hs1 hs8).mono ?_
      rintro e w1 ⟨hf, hres⟩
      simp only [hx] at hres
      obtain ⟨rfl, hon⟩ := hres
      have hc : w1.cell? ⟨b, 158, none⟩ = some (vI y.1.n) := hon.1.facts.2.2.2.2.2.2.2.2.2.2.2.2.2.2.1
      have hcV : w1.cell? ⟨b, 146, none⟩ = some (vI y.1.globals) := hon.1.facts.2.2.1
      clear hx hm
      go_wp2_with fail
      refine wp_region_still_tail 10 mixed (by kernel_rfl) ?_
      simp only [List.take_succ_cons, List.take_zero, List.drop_succ_cons, List.drop_zero]
      repeat still_step
      still_call (within_any _ _ _ _)
      repeat still_step
      refine wpStill_nil ?_
      go_wp2_with fail
      refine (must_true 18 x.1.at' _).mono ?_
      rintro e w' ⟨rfl, rfl⟩
      go_wp2_with fail
      go_end0
      exact ⟨hf.drew, rfl, hon.drew⟩
    · have hm' : decide (0 ≤ y.1.n ∧ y.1.n ≤ IntKind.i64.wrap (y.1.globals - 1)) = false := by simpa using hm
      simp only [askX, hx, hm', if_true, Bool.false_eq_true, if_false]
      go_enter Tryz.func82, Tryz.ntmps82
      go_wp2_with fail
      refine (numberN_own M hN x _ h op size hop hlt hsz hs1 hs8).mono ?_
      rintro e w1 ⟨hf, hres⟩
      simp only [hx] at hres
      obtain ⟨rfl, hon⟩ := hres
      have hc : w1.cell? ⟨b, 158, none⟩ = some (vI y.1.n) := hon.1.facts.2.2.2.2.2.2.2.2.2.2.2.2.2.2.1
      have hcV : w1.cell? ⟨b, 146, none⟩ = some (vI y.1.globals) := hon.1.facts.2.2.1
      clear hx hm
      go_wp2_with fail
      refine wp_region_still_tail 10 mixed (by kernel_rfl) ?_
      simp only [List.take_succ_cons, List.take_zero, List.drop_succ_cons, List.drop_zero]
      repeat still_step
      still_call (within_any _ _ _ _)
      repeat still_step
      refine wpStill_nil ?_
      go_wp2_with fail
      refine (must_false 18 x.1.at' _).mono ?_
      rintro e w' ⟨rfl, rfl⟩
      go_wp2_with fail
      exact ⟨rfl, hf.drew, rfl⟩

set_option maxRecDepth 100000 in
set_option maxHeartbeats 1000000 in
theorem target_own {b : Nat} (M : Mode b) (hN : NextOwn M) (x : WS × M.σ) (w : World) (h : On M w x) (op size : Nat) (hop : x.1.op = op) (hlt : op < 18) (hsz : szs.getD op 0 = size) (hs1 : 1 ≤ size) (hs8 : size ≤ 8) :
    Calls Tryz.prog 86 #[.pointer (some ⟨b, 0, none⟩), .pointer (some ⟨b, 158, none⟩)] w (Ends M w (askX M 158 size (fun s => decide (0 ≤ s.n ∧ s.n ≤ IntKind.i64.wrap (s.len - 1))) 16 x)) := by
  cases hx : nextX M 158 size x with
  | error z =>
    simp only [askX, hx]
    go_enter Tryz.func86, Tryz.ntmps86
    go_wp2_with fail
    refine (numberN_own M hN x _ h op size hop hlt hsz hs1 hs8).mono ?_
    rintro e w1 ⟨hf, hres⟩
    simp only [hx] at hres
    subst hres
    go_wp2_with fail
    exact ⟨rfl, hf, rfl⟩
  | ok y =>
    by_cases hm : decide (0 ≤ y.1.n ∧ y.1.n ≤ IntKind.i64.wrap (y.1.len - 1)) = true
    · have hm' : decide (0 ≤ y.1.n ∧ y.1.n ≤ IntKind.i64.wrap (y.1.len - 1)) = true := by simpa using hm
      simp only [askX, hx, hm', if_true, Bool.false_eq_true, if_false]
      go_enter Tryz.func86, Tryz.ntmps86
      go_wp2_with fail
      refine (numberN_own M hN x _ h op size hop hlt hsz hs1 hs8).mono ?_
      rintro e w1 ⟨hf, hres⟩
      simp only [hx] at hres
      obtain ⟨rfl, hon⟩ := hres
      have hc : w1.cell? ⟨b, 158, none⟩ = some (vI y.1.n) := hon.1.facts.2.2.2.2.2.2.2.2.2.2.2.2.2.2.1
      have hcV : w1.cell? ⟨b, 153, none⟩ = some (vI y.1.len) := hon.1.facts.2.2.2.2.2.2.2.2.2.1
      clear hx hm
      go_wp2_with fail
      refine wp_region_still_tail 10 mixed (by kernel_rfl) ?_
      simp only [List.take_succ_cons, List.take_zero, List.drop_succ_cons, List.drop_zero]
      repeat still_step
      still_call (within_any _ _ _ _)
      repeat still_step
      refine wpStill_nil ?_
      go_wp2_with fail
      refine (must_true 16 x.1.at' _).mono ?_
      rintro e w' ⟨rfl, rfl⟩
      go_wp2_with fail
      go_end0
      exact ⟨hf.drew, rfl, hon.drew⟩
    · have hm' : decide (0 ≤ y.1.n ∧ y.1.n ≤ IntKind.i64.wrap (y.1.len - 1)) = false := by simpa using hm
      simp only [askX, hx, hm', if_true, Bool.false_eq_true, if_false]
      go_enter Tryz.func86, Tryz.ntmps86
      go_wp2_with fail
      refine (numberN_own M hN x _ h op size hop hlt hsz hs1 hs8).mono ?_
      rintro e w1 ⟨hf, hres⟩
      simp only [hx] at hres
      obtain ⟨rfl, hon⟩ := hres
      have hc : w1.cell? ⟨b, 158, none⟩ = some (vI y.1.n) := hon.1.facts.2.2.2.2.2.2.2.2.2.2.2.2.2.2.1
      have hcV : w1.cell? ⟨b, 153, none⟩ = some (vI y.1.len) := hon.1.facts.2.2.2.2.2.2.2.2.2.1
      clear hx hm
      go_wp2_with fail
      refine wp_region_still_tail 10 mixed (by kernel_rfl) ?_
      simp only [List.take_succ_cons, List.take_zero, List.drop_succ_cons, List.drop_zero]
      repeat still_step
      still_call (within_any _ _ _ _)
      repeat still_step
      refine wpStill_nil ?_
      go_wp2_with fail
      refine (must_false 16 x.1.at' _).mono ?_
      rintro e w' ⟨rfl, rfl⟩
      go_wp2_with fail
      exact ⟨rfl, hf.drew, rfl⟩

set_option maxRecDepth 100000 in
set_option maxHeartbeats 1000000 in
theorem callee_own {b : Nat} (M : Mode b) (hN : NextOwn M) (x : WS × M.σ) (w : World) (h : On M w x) (op size : Nat) (hop : x.1.op = op) (hlt : op < 18) (hsz : szs.getD op 0 = size) (hs1 : 1 ≤ size) (hs8 : size ≤ 8) (fa : Option Addr) (nf fc : Nat) (hfu : x.1.funcs = .slice fa nf fc) :
    Calls Tryz.prog 83 #[.pointer (some ⟨b, 0, none⟩), .pointer (some ⟨b, 158, none⟩)] w (Ends M w (askX M 158 size (fun s => decide (0 ≤ s.n ∧ s.n ≤ IntKind.i64.wrap ((nf : Int) - 1))) 14 x)) := by
  cases hx : nextX M 158 size x with
  | error z =>
    simp only [askX, hx]
    go_enter Tryz.func83, Tryz.ntmps83
    go_wp2_with fail
    refine (numberN_own M hN x _ h op size hop hlt hsz hs1 hs8).mono ?_
    rintro e w1 ⟨hf, hres⟩
    simp only [hx] at hres
    subst hres
    go_wp2_with fail
    exact ⟨rfl, hf, rfl⟩
  | ok y =>
    have hfy : y.1.funcs = .slice fa nf fc := by obtain ⟨v, st, rfl⟩ := nextX_num hx; exact hfu
    by_cases hm : decide (0 ≤ y.1.n ∧ y.1.n ≤ IntKind.i64.wrap ((nf : Int) - 1)) = true
    · have hm' : decide (0 ≤ y.1.n ∧ y.1.n ≤ IntKind.i64.wrap ((nf : Int) - 1)) = true := by simpa using hm
      simp only [askX, hx, hm', if_true, Bool.false_eq_true, if_false]
      go_enter Tryz.func83, Tryz.ntmps83
      go_wp2_with fail
      refine (numberN_own M hN x _ h op size hop hlt hsz hs1 hs8).mono ?_
      rintro e w1 ⟨hf, hres⟩
      simp only [hx] at hres
      obtain ⟨rfl, hon⟩ := hres
      have hc : w1.cell? ⟨b, 158, none⟩ = some (vI y.1.n) := hon.1.facts.2.2.2.2.2.2.2.2.2.2.2.2.2.2.1
      have hcV : w1.cell? ⟨b, 147, none⟩ = some (.slice fa nf fc) := by
        rw [hon.1.facts.2.2.2.1, hfy]
      clear hx hm
      go_wp2_with fail
      refine wp_region_still_tail 11 mixed (by kernel_rfl) ?_
      simp only [List.take_succ_cons, List.take_zero, List.drop_succ_cons, List.drop_zero]
      repeat still_step
      still_call (within_any _ _ _ _)
      repeat still_step
      refine wpStill_nil ?_
      go_wp2_with fail
      refine (must_true 14 x.1.at' _).mono ?_
      rintro e w' ⟨rfl, rfl⟩
      go_wp2_with fail
      go_end0
      exact ⟨hf.drew, rfl, hon.drew⟩
    · have hm' : decide (0 ≤ y.1.n ∧ y.1.n ≤ IntKind.i64.wrap ((nf : Int) - 1)) = false := by simpa using hm
      simp only [askX, hx, hm', if_true, Bool.false_eq_true, if_false]
      go_enter Tryz.func83, Tryz.ntmps83
      go_wp2_with fail
      refine (numberN_own M hN x _ h op size hop hlt hsz hs1 hs8).mono ?_
      rintro e w1 ⟨hf, hres⟩
      simp only [hx] at hres
      obtain ⟨rfl, hon⟩ := hres
      have hc : w1.cell? ⟨b, 158, none⟩ = some (vI y.1.n) := hon.1.facts.2.2.2.2.2.2.2.2.2.2.2.2.2.2.1
      have hcV : w1.cell? ⟨b, 147, none⟩ = some (.slice fa nf fc) := by
        rw [hon.1.facts.2.2.2.1, hfy]
      clear hx hm
      go_wp2_with fail
      refine wp_region_still_tail 11 mixed (by kernel_rfl) ?_
      simp only [List.take_succ_cons, List.take_zero, List.drop_succ_cons, List.drop_zero]
      repeat still_step
      still_call (within_any _ _ _ _)
      repeat still_step
      refine wpStill_nil ?_
      go_wp2_with fail
      refine (must_false 14 x.1.at' _).mono ?_
      rintro e w' ⟨rfl, rfl⟩
      go_wp2_with fail
      exact ⟨rfl, hf.drew, rfl⟩

set_option maxRecDepth 100000 in
set_option maxHeartbeats 1000000 in
theorem askGlobals_any {b : Nat} (M : Mode b) (hN : NextOwn M) (x : WS × M.σ) (w : World) (h : On M w x) :
    Calls Tryz.prog 62 #[.pointer (some ⟨b, 0, none⟩)] w (Ends M w (askX M 146 1 (fun s => decide (0 ≤ s.globals ∧ s.globals ≤ 16)) 18 x)) := by
  cases hx : nextX M 146 1 x with
  | error z =>
    simp only [askX, hx]
    go_enter Tryz.func62, Tryz.ntmps62
    go_wp2_with fail
    refine (hN 146 (by simp [places]) x 1 _ h (by omega) (by omega)).mono ?_
    rintro e w1 ⟨hf, hres⟩
    simp only [hx] at hres
    subst hres
    go_wp2_with fail
    exact ⟨rfl, hf, rfl⟩
  | ok y =>
    by_cases hm : decide (0 ≤ y.1.globals ∧ y.1.globals ≤ 16) = true
    · have hm' : decide (0 ≤ y.1.globals ∧ y.1.globals ≤ 16) = true := by simpa using hm
      simp only [askX, hx, hm', if_true, Bool.false_eq_true, if_false]
      go_enter Tryz.func62, Tryz.ntmps62
      go_wp2_with fail
      refine (hN 146 (by simp [places]) x 1 _ h (by omega) (by omega)).mono ?_
      rintro e w1 ⟨hf, hres⟩
      simp only [hx] at hres
      obtain ⟨rfl, hon⟩ := hres
      have hc : w1.cell? ⟨b, 146, none⟩ = some (vI y.1.globals) := hon.1.facts.2.2.1
      clear hx hm
      go_wp2_with fail
      refine (within_any _ _ _ _).mono ?_
      rintro e w' ⟨rfl, rfl⟩
      rw [hm']
      go_wp2_with fail
      refine (must_true 18 x.1.at' _).mono ?_
      rintro e w' ⟨rfl, rfl⟩
      go_wp2_with fail
      go_end0
      exact ⟨hf, rfl, hon⟩
    · have hm' : decide (0 ≤ y.1.globals ∧ y.1.globals ≤ 16) = false := by simpa using hm
      simp only [askX, hx, hm', if_true, Bool.false_eq_true, if_false]
      go_enter Tryz.func62, Tryz.ntmps62
      go_wp2_with fail
      refine (hN 146 (by simp [places]) x 1 _ h (by omega) (by omega)).mono ?_
      rintro e w1 ⟨hf, hres⟩
      simp only [hx] at hres
      obtain ⟨rfl, hon⟩ := hres
      have hc : w1.cell? ⟨b, 146, none⟩ = some (vI y.1.globals) := hon.1.facts.2.2.1
      clear hx hm
      go_wp2_with fail
      refine (within_any _ _ _ _).mono ?_
      rintro e w' ⟨rfl, rfl⟩
      rw [hm']
      go_wp2_with fail
      refine (must_false 18 x.1.at' _).mono ?_
      rintro e w' ⟨rfl, rfl⟩
      go_wp2_with fail
      exact ⟨rfl, hf, rfl⟩

set_option maxRecDepth 100000 in
set_option maxHeartbeats 1000000 in
theorem askFunctions_any {b : Nat} (M : Mode b) (hN : NextOwn M) (x : WS × M.σ) (w : World) (h : On M w x) :
    Calls Tryz.prog 63 #[.pointer (some ⟨b, 0, none⟩)] w (Ends M w (askX M 161 2 (fun s => decide (1 ≤ s.count ∧ s.count ≤ 65535)) 20 x)) := by
  cases hx : nextX M 161 2 x with
  | error z =>
    simp only [askX, hx]
    go_enter Tryz.func63, Tryz.ntmps63
    go_wp2_with fail
    refine (hN 161 (by simp [places]) x 2 _ h (by omega) (by omega)).mono ?_
    rintro e w1 ⟨hf, hres⟩
    simp only [hx] at hres
    subst hres
    go_wp2_with fail
    exact ⟨rfl, hf, rfl⟩
  | ok y =>
    by_cases hm : decide (1 ≤ y.1.count ∧ y.1.count ≤ 65535) = true
    · have hm' : decide (1 ≤ y.1.count ∧ y.1.count ≤ 65535) = true := by simpa using hm
      simp only [askX, hx, hm', if_true, Bool.false_eq_true, if_false]
      go_enter Tryz.func63, Tryz.ntmps63
      go_wp2_with fail
      refine (hN 161 (by simp [places]) x 2 _ h (by omega) (by omega)).mono ?_
      rintro e w1 ⟨hf, hres⟩
      simp only [hx] at hres
      obtain ⟨rfl, hon⟩ := hres
      have hc : w1.cell? ⟨b, 161, none⟩ = some (vI y.1.count) := hon.1.facts.2.2.2.2.2.2.2.2.2.2.2.2.2.2.2.2.2
      clear hx hm
      go_wp2_with fail
      refine (within_any _ _ _ _).mono ?_
      rintro e w' ⟨rfl, rfl⟩
      rw [hm']
      go_wp2_with fail
      refine (must_true 20 x.1.at' _).mono ?_
      rintro e w' ⟨rfl, rfl⟩
      go_wp2_with fail
      go_end0
      exact ⟨hf, rfl, hon⟩
    · have hm' : decide (1 ≤ y.1.count ∧ y.1.count ≤ 65535) = false := by simpa using hm
      simp only [askX, hx, hm', if_true, Bool.false_eq_true, if_false]
      go_enter Tryz.func63, Tryz.ntmps63
      go_wp2_with fail
      refine (hN 161 (by simp [places]) x 2 _ h (by omega) (by omega)).mono ?_
      rintro e w1 ⟨hf, hres⟩
      simp only [hx] at hres
      obtain ⟨rfl, hon⟩ := hres
      have hc : w1.cell? ⟨b, 161, none⟩ = some (vI y.1.count) := hon.1.facts.2.2.2.2.2.2.2.2.2.2.2.2.2.2.2.2.2
      clear hx hm
      go_wp2_with fail
      refine (within_any _ _ _ _).mono ?_
      rintro e w' ⟨rfl, rfl⟩
      rw [hm']
      go_wp2_with fail
      refine (must_false 20 x.1.at' _).mono ?_
      rintro e w' ⟨rfl, rfl⟩
      go_wp2_with fail
      exact ⟨rfl, hf, rfl⟩


/-- anyNumber. -/
theorem anyNumber_own {b : Nat} (M : Mode b) (hN : NextOwn M) (x : WS × M.σ) (w : World) (h : On M w x) (op size : Nat) (hop : x.1.op = op) (hlt : op < 18) (hsz : szs.getD op 0 = size) (hs1 : 1 ≤ size) (hs8 : size ≤ 8) :
    Calls Tryz.prog 79 #[.pointer (some ⟨b, 0, none⟩), .pointer (some ⟨b, 158, none⟩)] w (Ends M w (nextX M 158 size x)) := by
  go_enter Tryz.func79, Tryz.ntmps79
  go_wp2_with fail
  refine (numberN_own M hN x _ h op size hop hlt hsz hs1 hs8).mono ?_
  rintro e w1 ⟨hf, hres⟩
  cases hx : nextX M 158 size x with
  | error z =>
    simp only [hx] at hres
    subst hres
    go_wp2_with fail
    refine ⟨rfl, hf, ?_⟩
    simp only [hx]
  | ok y =>
    simp only [hx] at hres
    obtain ⟨rfl, hon⟩ := hres
    go_wp2_with fail
    go_end0
    refine ⟨hf, ?_⟩
    simp only [hx]
    exact ⟨trivial, hon⟩

/-- Locations are counted. -/
def locX {b : Nat} (M : Mode b) (n p : Int) (x : WS × M.σ) : X (WS × M.σ) :=
  if wrap64 (x.1.locs + n) ≤ 1048576 then .ok ({ x.1 with locs := wrap64 (x.1.locs + n) }, x.2) else .error (21, p)

theorem cells_locs (s : WS) (v : Int) : s.cells.setIfInBounds 148 (vI v) = { s with locs := v }.cells := by kernel_rfl

set_option maxRecDepth 100000 in
set_option maxHeartbeats 1000000 in
theorem locate_any {b : Nat} (M : Mode b) (n p : Int) (x : WS × M.σ) (w : World) (h : On M w x) :
    Calls Tryz.prog 91 #[.pointer (some ⟨b, 0, none⟩), vI n, vI p] w (Ends M w (locX M n p x)) := by
  have hc : w.cell? ⟨b, 148, none⟩ = some (vI x.1.locs) := h.1.facts.2.2.2.2.1
  have hz := h.1.frozen 148
  have hl' : ∀ v, Lies (w.setCell ⟨b, 148, none⟩ (vI v)) b { x.1 with locs := v } := fun v => h.1.setCell 148 _ (cells_locs _ _)
  have hfr : ∀ v, Fr (· = b) w (w.setCell ⟨b, 148, none⟩ (vI v)) := fun v => Fr.setCell (Fr.refl (fun k => k = b) w) _ _ (Or.inl rfl)
  by_cases hm : wrap64 (x.1.locs + n) ≤ 1048576
  · have hm' : decide (wrap64 (x.1.locs + n) ≤ 1048576) = true := by simpa using hm
    go_enter Tryz.func91, Tryz.ntmps91
    go_wp2_with fail

    refine (must_true 21 p _).mono ?_
    rintro e w' ⟨rfl, rfl⟩
    go_wp2_with fail
    go_end0
    refine ⟨(hfr _).mono (fun k _ hk => Or.inl hk), ?_⟩
    simp only [locX, if_pos hm]
    exact ⟨trivial, h.fr (hfr _) (hl' _) rfl rfl⟩
  · have hm' : decide (wrap64 (x.1.locs + n) ≤ 1048576) = false := by simpa using hm
    go_enter Tryz.func91, Tryz.ntmps91
    go_wp2_with fail

    refine (must_false 21 p _).mono ?_
    rintro e w' ⟨rfl, rfl⟩
    go_wp2_with fail
    refine ⟨rfl, (hfr _).mono (fun k _ hk => Or.inl hk), ?_⟩
    simp only [locX, if_neg (Int.not_le.2 hm)]
end Go.Proofs.YtjmbfjaahadbhaaGreatDoor
