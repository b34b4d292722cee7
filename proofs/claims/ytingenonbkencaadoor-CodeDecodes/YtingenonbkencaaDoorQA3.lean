import Derived.Test.YtingenonbkencaaDoorQM1J
import Derived.Test.YtingenonbkencaaDoorQA2
set_option linter.unusedVariables false
set_option linter.unusedSimpArgs false
namespace Go.Proofs.YtingenonbkencaaDoor
open Go.RowKit (wrap32 wrap64)
structure Fr (S : Nat → Prop) (w w' : World) : Prop where
 os : w'.os = w.os
 tape : w'.tape = w.tape
 output : w'.output = w.output
 size : w.heap.size ≤ w'.heap.size
 block : ∀ k, k < w.heap.size → ¬ S k → w'.heap[k]? = w.heap[k]?
theorem Fr.refl (S : Nat → Prop) (w : World) : Fr S w w := ⟨rfl, rfl, rfl, Nat.le_refl _, fun _ _ _ => rfl⟩
theorem Fr.trans {S : Nat → Prop} {a b c : World} (h : Fr S a b) (k : Fr S b c) : Fr S a c :=
 ⟨k.os.trans h.os, k.tape.trans h.tape, k.output.trans h.output, Nat.le_trans h.size k.size, fun j hj hS => (k.block j (Nat.lt_of_lt_of_le hj h.size) hS).trans (h.block j hj hS)⟩
theorem Fr.mono {S T : Nat → Prop} {a b : World} (h : Fr S a b) (hs : ∀ k, k < a.heap.size → S k → T k) : Fr T a b :=
 ⟨h.os, h.tape, h.output, h.size, fun k hk hT => h.block k hk (fun hS => hT (hs k hk hS))⟩
theorem Fr.drew {S : Nat → Prop} {a w : World} (h : Fr S a w) : Fr S a w.drew := ⟨h.os, h.tape, h.output, h.size, h.block⟩
theorem Fr.alloc {S : Nat → Prop} {a w : World} (h : Fr S a w) (o : Obj) : Fr S a (w.alloc o) :=
 ⟨h.os, h.tape, h.output, by simp; have := h.size; omega, fun k hk hS => (Go.RowKit.Below.heap_alloc w o k (Nat.lt_of_lt_of_le hk h.size)).trans (h.block k hk hS)⟩
theorem Fr.setCell {S : Nat → Prop} {a w : World} (h : Fr S a w) (p : Addr) (v : Value) (hp : S p.block ∨ a.heap.size ≤ p.block) : Fr S a (w.setCell p v) :=
 ⟨h.os, h.tape, h.output, by simpa using h.size, fun k hk hS => by
  rw [Go.RowKit.Below.heap_setCell w p v k (by intro e; subst e; rcases hp with hp | hp; exact hS hp; omega)]; exact h.block k hk hS⟩
theorem Fr.cell {S : Nat → Prop} {w w' : World} (h : Fr S w w') {k o : Nat} (hk : k < w.heap.size) (hS : ¬ S k) : w'.cell? ⟨k, o, none⟩ = w.cell? ⟨k, o, none⟩ := World.cell?_of_block (h.block k hk hS)
theorem Fr.frozen {S : Nat → Prop} {w w' : World} (h : Fr S w w') {k o : Nat} (hk : k < w.heap.size) (hS : ¬ S k) : w'.frozen? ⟨k, o, none⟩ = w.frozen? ⟨k, o, none⟩ := World.frozen?_of_block (h.block k hk hS)
def Lies (w : World) (b : Nat) (s : WS) : Prop := w.heap[b]? = some (.cells s.cells 87)
theorem Lies.lt {w : World} {b : Nat} {s : WS} (h : Lies w b s) : b < w.heap.size := (Array.getElem?_eq_some_iff.1 h).1
theorem Lies.cell {w : World} {b : Nat} {s : WS} (h : Lies w b s) (o : Nat) : w.cell? ⟨b, o, none⟩ = s.cells[o]? := by
 unfold World.cell?; rw [show w.heap[b]? = _ from h]; simp
theorem Lies.frozen {w : World} {b : Nat} {s : WS} (h : Lies w b s) (o : Nat) : w.frozen? ⟨b, o, none⟩ = false := by
 unfold World.frozen?; rw [show w.heap[b]? = _ from h]; simp
theorem Lies.alloc {w : World} {b : Nat} {s : WS} (h : Lies w b s) (o : Obj) : Lies (w.alloc o) b s := by
 unfold Lies; rw [Go.RowKit.Below.heap_alloc w o b h.lt]; exact h
theorem Lies.drew {w : World} {b : Nat} {s : WS} (h : Lies w b s) : Lies w.drew b s := h
theorem Lies.other {w : World} {b : Nat} {s : WS} (h : Lies w b s) (p : Addr) (v : Value) (hp : b ≠ p.block) : Lies (w.setCell p v) b s := by
 unfold Lies; rw [Go.RowKit.Below.heap_setCell w p v b hp]; exact h
theorem Lies.setCell {w : World} {b : Nat} {s s' : WS} (h : Lies w b s) (o : Nat) (v : Value) (e : s.cells.setIfInBounds o v = s'.cells) : Lies (w.setCell ⟨b, o, none⟩ v) b s' := by
 have h' : w.heap[b]? = some (.cells s.cells 87) := h
 have hb := h.lt
 unfold Lies World.setCell
 simp only [Array.getElem?_modify]
 rw [if_pos trivial, h']
 simp [e]
theorem Lies.fr {S : Nat → Prop} {w w' : World} {b : Nat} {s : WS} (h : Lies w b s) (f : Fr S w w') (hS : ¬ S b) : Lies w' b s := by
 unfold Lies; rw [f.block b h.lt hS]; exact h
theorem Lies.facts {w : World} {b : Nat} {s : WS} (h : Lies w b s) :
 w.cell? ⟨b, 0, none⟩ = some s.num ∧ w.cell? ⟨b, 1, none⟩ = some (vI s.at') ∧ w.cell? ⟨b, 146, none⟩ = some (vI s.globals) ∧ w.cell? ⟨b, 147, none⟩ = some s.funcs ∧
 w.cell? ⟨b, 148, none⟩ = some (vI s.locs) ∧ w.cell? ⟨b, 149, none⟩ = some (vI s.fP) ∧ w.cell? ⟨b, 150, none⟩ = some (vI s.fR) ∧ w.cell? ⟨b, 151, none⟩ = some (vI s.fV) ∧
 w.cell? ⟨b, 152, none⟩ = some s.fC ∧ w.cell? ⟨b, 153, none⟩ = some (vI s.len) ∧ w.cell? ⟨b, 154, none⟩ = some (vI s.op) ∧ w.cell? ⟨b, 155, none⟩ = some (vI s.r) ∧
 w.cell? ⟨b, 156, none⟩ = some (vI s.s) ∧ w.cell? ⟨b, 157, none⟩ = some (vI s.t) ∧ w.cell? ⟨b, 158, none⟩ = some (vI s.n) ∧ w.cell? ⟨b, 159, none⟩ = some s.args ∧
 w.cell? ⟨b, 160, none⟩ = some s.rets ∧ w.cell? ⟨b, 161, none⟩ = some (vI s.count) := by
 simp only [h.cell]
 refine ⟨?_, ?_, ?_, ?_, ?_, ?_, ?_, ?_, ?_, ?_, ?_, ?_, ?_, ?_, ?_, ?_, ?_, ?_⟩ <;> kernel_rfl
def WS.set (s : WS) (o : Nat) (v : Int) : WS :=
 if o = 146 then { s with globals := v } else if o = 149 then { s with fP := v } else if o = 150 then { s with fR := v } else if o = 151 then { s with fV := v }
 else if o = 153 then { s with len := v } else if o = 154 then { s with op := v } else if o = 155 then { s with r := v } else if o = 156 then { s with s := v }
 else if o = 157 then { s with t := v } else if o = 158 then { s with n := v } else { s with count := v }
def places : List Nat := [146, 149, 150, 151, 153, 154, 155, 156, 157, 158, 161]
theorem cells_set (s : WS) (o : Nat) (v : Int) (h : o ∈ places) : s.cells.setIfInBounds o (vI v) = (s.set o v).cells := by
 simp only [places, List.mem_cons, List.not_mem_nil, or_false] at h
 rcases h with rfl | rfl | rfl | rfl | rfl | rfl | rfl | rfl | rfl | rfl | rfl <;> kernel_rfl
theorem cells_at (s : WS) (v : Int) : s.cells.setIfInBounds 1 (vI v) = { s with at' := v }.cells := by kernel_rfl
def WS.get (s : WS) (o : Nat) : Int :=
 if o = 146 then s.globals else if o = 149 then s.fP else if o = 150 then s.fR else if o = 151 then s.fV else if o = 153 then s.len else if o = 154 then s.op else if o = 155 then s.r else if o = 156 then s.s else if o = 157 then s.t else if o = 158 then s.n else s.count
theorem cells_get (s : WS) (o : Nat) (h : o ∈ places) : s.cells[o]? = some (vI (s.get o)) := by
 simp only [places, List.mem_cons, List.not_mem_nil, or_false] at h
 rcases h with rfl | rfl | rfl | rfl | rfl | rfl | rfl | rfl | rfl | rfl | rfl <;> kernel_rfl
theorem set_num (s : WS) (o : Nat) (v : Int) : (s.set o v).num = s.num := by
 unfold WS.set; repeat' split
 all_goals rfl
def BytesOf (b : Nat) (w : World) (v : Value) (bs : List UInt8) : Prop :=
 bs.length ≤ 1000000000000000 ∧ ∃ a c, v = .slice a bs.length c ∧ bs.length ≤ c ∧
  (bs ≠ [] → ∃ k o, a = some ⟨k, o, none⟩ ∧ k < w.heap.size ∧ k ≠ b ∧ ∀ i, (h : i < bs.length) → w.cell? ⟨k, o + i, none⟩ = some (.int .u8 bs[i].toNat))
theorem BytesOf.plain {b : Nat} {w : World} {v : Value} {bs : List UInt8} (h : BytesOf b w v bs) : BytesIn w v bs := by
 obtain ⟨h1, a, c, h2, h3, h4⟩ := h
 exact ⟨h1, a, c, h2, h3, fun hne => let ⟨k, o, e, hk, _, hc⟩ := h4 hne; ⟨k, o, e, hk, hc⟩⟩
theorem BytesOf.fr {S : Nat → Prop} {b : Nat} {w w' : World} {v : Value} {bs : List UInt8} (h : BytesOf b w v bs) (f : Fr S w w') (hS : ∀ k, S k → k < w.heap.size → k = b) : BytesOf b w' v bs := by
 obtain ⟨h1, a, c, h2, h3, h4⟩ := h
 refine ⟨h1, a, c, h2, h3, fun hne => ?_⟩
 obtain ⟨k, o, e, hk, hb, hc⟩ := h4 hne
 exact ⟨k, o, e, Nat.lt_of_lt_of_le hk f.size, hb, fun i hi => (f.cell hk (fun h => hb (hS k h hk))).trans (hc i hi)⟩
abbrev X := Except (Int × Int)
def rd (bs : List UInt8) (p size : Nat) : X Int := if p + size ≤ bs.length then .ok (wrap64 (leAt bs p size)) else .error (11, bs.length)
def adv (p : Int) (size : Nat) : Int := IntKind.i64.wrap (p + size)
def szs : List Nat := [0, 8, 0, 0, 0, 0, 1, 1, 1, 1, 1, 2, 0, 2, 2, 0, 0, 0]
def Tab (w : World) : Prop := ∀ op, op < 18 → w.cell? ⟨0, op, none⟩ = some (vI (szs.getD op 0 : Nat))
theorem Tab.fr {S : Nat → Prop} {w w' : World} (h : Tab w) (f : Fr S w w') (h0 : ¬ S 0) : Tab w' := fun op ho => by
 have hlt : 0 < w.heap.size := by
  have := h 0 (by omega)
  unfold World.cell? at this
  by_cases hk : 0 < w.heap.size
  ·exact hk
  ·simp [Array.getElem?_eq_none (Nat.le_of_not_lt hk)] at this
 rw [f.cell hlt h0]; exact h op ho
structure Mode (b : Nat) where
 σ : Type
 S : Nat → Prop
 N : Nat → Prop
 fn : Value
 I : σ → Int → World → Prop
 eff : σ → Int → Nat → Int → X (Int × σ)
 tab : ∀ st p w, I st p w → Tab w
 stable : ∀ st p w w', I st p w → Fr (· = b) w w' → I st p w'
def Mode.SB {b : Nat} (M : Mode b) (k : Nat) : Prop := k = b ∨ M.S k
def On {b : Nat} (M : Mode b) (w : World) (x : WS × M.σ) : Prop := Lies w b x.1 ∧ x.1.num = M.fn ∧ M.I x.2 x.1.at' w
theorem On.fr {b : Nat} {M : Mode b} {w w' : World} {x : WS × M.σ} {s' : WS} (h : On M w x) (f : Fr (· = b) w w') (hl : Lies w' b s') (hn : s'.num = x.1.num) (ha : s'.at' = x.1.at') : On M w' (s', x.2) :=
 ⟨hl, hn.trans h.2.1, by rw [ha]; exact M.stable _ _ _ _ h.2.2 f⟩
def Ends {b : Nat} (M : Mode b) (w : World) (r : X (WS × M.σ)) (e : Ending) (w' : World) : Prop :=
 Fr M.SB w w' ∧ match r with
  | .ok y => e = .returned (.tuple #[]) ∧ On M w' y
  | .error x => e = .panicked (viol x.1 x.2)
def nextX {b : Nat} (M : Mode b) (o size : Nat) (x : WS × M.σ) : X (WS × M.σ) :=
 match M.eff x.2 x.1.at' size (x.1.get o) with
 | .ok (v, st) => .ok ({ x.1.set o v with at' := adv x.1.at' size }, st)
 | .error z => .error z
def NextOwn {b : Nat} (M : Mode b) : Prop := ∀ (o : Nat), o ∈ places → ∀ (x : WS × M.σ) (size : Nat) (w : World), On M w x → 1 ≤ size → size ≤ 8 →
 Calls Tryd.prog 90 #[.pointer (some ⟨b, 0, none⟩), .pointer (some ⟨b, o, none⟩), .int .i64 size] w fun e w' => Fr M.SB w w' ∧
  match nextX M o size x with
  | .ok y => e = .returned (vI x.1.at') ∧ On M w' y
  | .error z => e = .panicked (viol z.1 z.2)
def NextOther {b : Nat} (M : Mode b) : Prop := ∀ (pb po : Nat), pb ≠ b → ¬ M.S pb → ¬ M.N pb → ∀ (x : WS × M.σ) (old : Int) (size : Nat) (w : World), On M w x → 1 ≤ size → size ≤ 8 → w.cell? ⟨pb, po, none⟩ = some (vI old) → w.frozen? ⟨pb, po, none⟩ = false →
 Calls Tryd.prog 90 #[.pointer (some ⟨b, 0, none⟩), .pointer (some ⟨pb, po, none⟩), .int .i64 size] w fun e w' => Fr (fun k => M.SB k ∨ k = pb) w w' ∧
  match M.eff x.2 x.1.at' size old with
  | .ok (v, st) => e = .returned (vI x.1.at') ∧ On M w' ({ x.1 with at' := adv x.1.at' size }, st) ∧ w'.heap[pb]? = (w.setCell ⟨pb, po, none⟩ (vI v)).heap[pb]?
  | .error z => e = .panicked (viol z.1 z.2)
end Go.Proofs.YtingenonbkencaaDoor
