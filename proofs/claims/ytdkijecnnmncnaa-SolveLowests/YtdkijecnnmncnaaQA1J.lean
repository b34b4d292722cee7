import Derived.Test.YtdkijecnnmncnaaProg
import Derived.WalkKit
import Derived.WalkLawsBesides
import Derived.StillTailTactics
import Derived.Deep.RegionHeld3
import Derived.Deep.RegionLaw
import Derived.Deep.RegionWith
import Derived.Deep.AppendLies
import Derived.Deep.Onto
import Derived.Deep.DeepCutAuto
import Derived.BigQuiet
import Derived.Laws.MakeOwn
namespace Go.Proofs.Ytdkijecnnmncnaa
open Go.RowKit (wrap32 wrap64)
set_option linter.unusedVariables false
set_option linter.unusedSimpArgs false
/-- A proposition that the walk doesn't see. -/
def Hd (p : Prop) : Prop := p
theorem Hd.out {p : Prop} (h : Hd p) : p := h

abbrev vI (n : Int) : Value := .int .i64 n

/-- Nothing has turned but the blocks of S, and new ones. -/
structure Fr (S : Nat → Prop) (w w' : World) : Prop where
  os : w'.os = w.os
  tape : w'.tape = w.tape
  output : w'.output = w.output
  size : w.heap.size ≤ w'.heap.size
  block : ∀ k, k < w.heap.size → ¬ S k → w'.heap[k]? = w.heap[k]?

theorem Fr.refl (S : Nat → Prop) (w : World) : Fr S w w := ⟨rfl, rfl, rfl, Nat.le_refl _, fun _ _ _ => rfl⟩
theorem Fr.trans {S : Nat → Prop} {a b c : World} (h : Fr S a b) (k : Fr S b c) : Fr S a c :=
  ⟨k.os.trans h.os, k.tape.trans h.tape, k.output.trans h.output, Nat.le_trans h.size k.size, fun j hj hS => (k.block j (Nat.lt_of_lt_of_le hj h.size) hS).trans (h.block j hj hS)⟩
theorem Fr.mono {S T : Nat → Prop} {a b : World} (h : Fr S a b) (hs : ∀ k, k < a.heap.size → S k → T k) : Fr T a b :=
  ⟨h.os, h.tape, h.output, h.size, fun k hk hT => h.block k hk (fun hS => hT (hs k hk hS))⟩
theorem Fr.drew {S : Nat → Prop} {a w : World} (h : Fr S a w) : Fr S a w.drew := ⟨h.os, h.tape, h.output, h.size, h.block⟩
theorem Fr.alloc {S : Nat → Prop} {a w : World} (h : Fr S a w) (o : Obj) : Fr S a (w.alloc o) :=
  ⟨h.os, h.tape, h.output, by simp; have := h.size; omega, fun k hk hS => (Go.RowKit.Below.heap_alloc w o k (Nat.lt_of_lt_of_le hk h.size)).trans (h.block k hk hS)⟩
theorem Fr.setCell {S : Nat → Prop} {a w : World} (h : Fr S a w) (p : Addr) (v : Value) (hp : S p.block ∨ a.heap.size ≤ p.block) : Fr S a (w.setCell p v) :=
  ⟨h.os, h.tape, h.output, by simpa using h.size, fun k hk hS => by
    rw [Go.RowKit.Below.heap_setCell w p v k (by intro e; subst e; rcases hp with hp | hp; exact hS hp; omega)]; exact h.block k hk hS⟩
theorem Fr.cell {S : Nat → Prop} {w w' : World} (h : Fr S w w') {k o : Nat} (hk : k < w.heap.size) (hS : ¬ S k) : w'.cell? ⟨k, o, none⟩ = w.cell? ⟨k, o, none⟩ := World.cell?_of_block (h.block k hk hS)
/-- What turned behind is new for the elder world. -/
theorem Fr.anew {S T : Nat → Prop} {a b c : World} (h : Fr S a b) (k : Fr T b c) (hT : ∀ j, j < a.heap.size → T j → S j) : Fr S a c :=
  ⟨k.os.trans h.os, k.tape.trans h.tape, k.output.trans h.output, Nat.le_trans h.size k.size, fun j hj hS => (k.block j (Nat.lt_of_lt_of_le hj h.size) (fun t => hS (hT j hj t))).trans (h.block j hj hS)⟩
theorem grown_fr {w w' : World} {row : Option Nat} (h : w.grownBy w' row) : Fr (fun k => row = some k) w w' :=
  ⟨h.os, h.tape, h.output, h.size, fun k hk hS => h.block k hk (fun e => hS e.symm)⟩

theorem ownsRow_fr {S : Nat → Prop} {w w' : World} {B e size n : Nat} {v : Value} {xs : List Value} (h : w.ownsRow B e size v n xs) (f : Fr S w w') (hS : ∀ g, v.ownBlock = some g → ¬ S g) : w'.ownsRow B e size v n xs := by
  refine ⟨h.1, ?_⟩
  rcases h.2 with h2 | ⟨g, cap, cur, rfl, h3, h4, h5⟩
  · exact Or.inl h2
  · exact Or.inr ⟨g, cap, cur, rfl, h3, by rw [f.block g ((Array.getElem?_eq_some_iff.1 h4).1) (hS g rfl)]; exact h4, h5⟩

theorem mixed : Try.prog.follows .mixedOrders = true := by kernel_rfl
theorem addr_add (g j : Nat) : (⟨g, 0, none⟩ : Addr).add j = ⟨g, j, none⟩ := by unfold Addr.add; split <;> simp_all
theorem addr_off (b off i : Nat) : (⟨b, off, none⟩ : Addr).add i = ⟨b, off + i, none⟩ := by unfold Addr.add; split <;> simp_all
theorem heap_alloc_last (w : World) (o : Obj) : (w.alloc o).heap[w.heap.size]? = some o := (MapKept.heap_alloc w o).1
theorem heap_lt {w : World} {k : Nat} {o : Obj} (h : w.heap[k]? = some o) : k < w.heap.size := (Array.getElem?_eq_some_iff.1 h).1
theorem cell_of {w : World} {k : Nat} {cs : Array Value} {t : TypeId} (h : w.heap[k]? = some (.cells cs t)) (o : Nat) : w.cell? ⟨k, o, none⟩ = cs[o]? := by
  unfold World.cell?; rw [h]; simp
theorem frozen_of {w : World} {k : Nat} {cs : Array Value} {t : TypeId} (h : w.heap[k]? = some (.cells cs t)) (o : Nat) : w.frozen? ⟨k, o, none⟩ = false := by
  unfold World.frozen?; rw [h]; simp
theorem set_of {w : World} {k : Nat} {cs : Array Value} {t : TypeId} (h : w.heap[k]? = some (.cells cs t)) (o : Nat) (v : Value) : (w.setCell ⟨k, o, none⟩ v).heap[k]? = some (.cells (cs.setIfInBounds o v) t) := by
  unfold World.setCell
  simp only [Array.getElem?_modify]
  rw [if_pos trivial, h]
  rfl

/-- An instruction, a function. -/
structure PI where
  op : Int
  r : Int
  s : Int
  t : Int
  n : Int
  args : List Int
  rets : List Int
structure PF where
  P : Int
  R : Int
  V : Int
  code : List PI

theorem results_cell {fn : Func} {p : Tmp} {ty : TypeId} (h : fn.results = #[.cell p ty]) (tmps : Array Value) (P : Program) (w : World) :
    (results fn tmps).run P w = ((asAddr (tmps.getD p undef)).run P w).andThen fun a w₁ => (loadVar ty a).run P w₁ := by
  simp only [results, h]
  simp [Sem.run_bind, Result.andThen]

theorem run_make_of (t e : TypeId) (z : Value) (size bytes : Nat) (ht : Try.prog.underlying t = some (.slice e)) (hz : (Try.prog.info? e).map (·.zero) = some (some z)) (hs : (Try.prog.info? e).map (·.size) = some size) (hb : (Try.prog.info? e).map (·.bytes) = some bytes)
    (n : Nat) (hn : bytes * n ≤ 281474976710656) (hn' : n ≤ 1000000000000000) (w : World) :
    (Instr.makeSlice t (.int .i64 n) (.int .i64 n)).run Try.prog w = .ok (.slice (some ⟨w.heap.size, 0, none⟩) n n) (w.alloc (.cells (madeCells z.cells (n * size)) e)) := by
  cases hi : Try.prog.info? e with
  | none => rw [hi] at hz; cases hz
  | some i =>
    rw [hi] at hz hs hb
    simp only [Option.map_some, Option.some.injEq] at hz hs hb
    have := run_make (P := Try.prog) w t e i z ht hi hz .i64 .i64 n n (by omega) (by omega) (by rw [hb, ← Int.natCast_mul]; omega) (by omega)
    rw [this, hs]
    simp


end Go.Proofs.Ytdkijecnnmncnaa

namespace Go.Proofs.Ytdkijecnnmncnaa
open Go.RowKit (wrap32 wrap64)
set_option linter.unusedVariables false
set_option linter.unusedSimpArgs false

/-! ### blocks -/
theorem heap_new (w : World) (o : Obj) : (w.alloc o).heap[w.heap.size]? = some o := (MapKept.heap_alloc w o).1
theorem Fr.then {S S' : Nat → Prop} {a b c : World} (h : Fr S a b) (k : Fr S' b c) (hs : ∀ j, j < a.heap.size → S' j → S j) : Fr S a c :=
  ⟨k.os.trans h.os, k.tape.trans h.tape, k.output.trans h.output, Nat.le_trans h.size k.size, fun j hj hS => (k.block j (Nat.lt_of_lt_of_le hj h.size) (fun e => hS (hs j hj e))).trans (h.block j hj hS)⟩
theorem setCell_fr (w : World) (k o : Nat) (u : Value) : Fr (fun j => j = k) w (w.setCell ⟨k, o, none⟩ u) := Fr.setCell (S := fun j => j = k) (Fr.refl _ w) _ _ (Or.inl rfl)

/-- A block of m rows of sz cells each. -/
def Rws (w : World) (t sz g m : Nat) (R : Nat → List Value) : Prop := ∃ cs : Array Value, w.heap[g]? = some (.cells cs t) ∧ cs.size = m * sz ∧ ∀ i o, i < m → o < sz → cs[i * sz + o]? = some ((R i).getD o undef)

theorem Rws.lt {w : World} {t sz g m : Nat} {R : Nat → List Value} (h : Rws w t sz g m R) : g < w.heap.size := by obtain ⟨cs, h, -⟩ := h; exact heap_lt h
theorem Rws.cell {w : World} {t sz g m : Nat} {R : Nat → List Value} (h : Rws w t sz g m R) {i o : Nat} (hi : i < m) (ho : o < sz) : w.cell? ⟨g, i * sz + o, none⟩ = some ((R i).getD o undef) := by
  obtain ⟨cs, h, -, hc⟩ := h; rw [cell_of h]; exact hc i o hi ho
theorem Rws.frozen {w : World} {t sz g m : Nat} {R : Nat → List Value} (h : Rws w t sz g m R) (q : Nat) : w.frozen? ⟨g, q, none⟩ = false := by
  obtain ⟨cs, h, -⟩ := h; exact frozen_of h q
theorem Rws.fr {S : Nat → Prop} {w w' : World} {t sz g m : Nat} {R : Nat → List Value} (h : Rws w t sz g m R) (f : Fr S w w') (hS : ¬ S g) : Rws w' t sz g m R := by
  have hl := h.lt
  obtain ⟨cs, h, h2⟩ := h; exact ⟨cs, (f.block g hl hS).trans h, h2⟩
theorem Rws.congr {w : World} {t sz g m : Nat} {R R' : Nat → List Value} (h : Rws w t sz g m R) (e : ∀ i, i < m → R i = R' i) : Rws w t sz g m R' := by
  obtain ⟨cs, h, h2, h3⟩ := h
  exact ⟨cs, h, h2, fun i o hi ho => by rw [h3 i o hi ho, e i hi]⟩
/-- Another at one place. -/
def at1 {α : Type} (f : Nat → α) (i : Nat) (x : α) : Nat → α := fun j => if j = i then x else f j
theorem at1_self {α : Type} (f : Nat → α) (i : Nat) (x : α) : at1 f i x i = x := if_pos rfl
theorem at1_ne {α : Type} (f : Nat → α) {i j : Nat} (x : α) (h : j ≠ i) : at1 f i x j = f j := if_neg h
theorem at1_at1 {α : Type} (f : Nat → α) (i : Nat) (x y : α) : at1 (at1 f i x) i y = at1 f i y := by
  funext j; unfold at1; split <;> rfl
theorem row_index {sz i j o q : Nat} (ho : o < sz) (hq : q < sz) (h : i * sz + o = j * sz + q) : i = j ∧ o = q := by
  have e1 : (i * sz + o) / sz = i := by rw [Nat.mul_comm, Nat.mul_add_div (by omega), Nat.div_eq_of_lt ho]; rfl
  have e2 : (j * sz + q) / sz = j := by rw [Nat.mul_comm, Nat.mul_add_div (by omega), Nat.div_eq_of_lt hq]; rfl
  have : i = j := by rw [← e1, ← e2, h]
  subst this
  exact ⟨rfl, by omega⟩
theorem Rws.set1 {w : World} {t sz g m : Nat} {R : Nat → List Value} (h : Rws w t sz g m R) {i o : Nat} (hi : i < m) (ho : o < sz) (hl : (R i).length = sz) (v : Value) : Rws (w.setCell ⟨g, i * sz + o, none⟩ v) t sz g m (at1 R i ((R i).set o v)) := by
  obtain ⟨cs, h, h2, h3⟩ := h
  have hlt : i * sz + o < m * sz := by
    have : (i + 1) * sz ≤ m * sz := Nat.mul_le_mul_right _ hi
    rw [Nat.add_mul] at this; omega
  refine ⟨cs.setIfInBounds (i * sz + o) v, set_of h _ v, by simpa using h2, fun j q hj hq => ?_⟩
  rw [Array.getElem?_setIfInBounds]
  by_cases e : i * sz + o = j * sz + q
  · obtain ⟨rfl, rfl⟩ := row_index ho hq e
    rw [if_pos rfl, if_pos (by omega), at1_self]
    simp [List.getD_eq_getElem?_getD, hl, ho]
  · rw [if_neg e, h3 j q hj hq]
    by_cases ej : j = i
    · subst ej
      have : o ≠ q := fun eo => e (by rw [eo])
      rw [at1_self]
      simp [List.getD_eq_getElem?_getD, List.getElem?_set_ne this]
    · rw [at1_ne _ _ ej]

/-- Numbers that lie somewhere. -/
def IA (w : World) (v : Value) (l : List Int) : Prop :=
  ∃ a c, v = .slice a l.length c ∧ (l ≠ [] → ∃ k o, a = some ⟨k, o, none⟩ ∧ k < w.heap.size ∧ ∀ j (h : j < l.length), w.cell? ⟨k, o + j, none⟩ = some (vI l[j]))
theorem IA.fr {S : Nat → Prop} {w w' : World} {v : Value} {l : List Int} (h : IA w v l) (f : Fr S w w') (hS : ∀ k, v.ownBlock = some k → ¬ S k) : IA w' v l := by
  obtain ⟨a, c, rfl, h⟩ := h
  refine ⟨a, c, rfl, fun hne => ?_⟩
  obtain ⟨k, o, rfl, hk, hc⟩ := h hne
  exact ⟨k, o, rfl, Nat.lt_of_lt_of_le hk f.size, fun j hj => (f.cell hk (hS k rfl)).trans (hc j hj)⟩
theorem IA.stay {w w' : World} {v : Value} {l : List Int} (h : IA w v l) (f : Fr (fun _ => False) w w') : IA w' v l := h.fr f (fun _ _ e => e)

theorem under27 : Try.prog.underlying 27 = some (.slice 3) := by kernel_rfl
theorem under30 : Try.prog.underlying 30 = some (.slice 29) := by kernel_rfl
theorem under22 : Try.prog.underlying 22 = some (.slice 32) := by kernel_rfl
theorem under34 : Try.prog.underlying 34 = some (.slice 27) := by kernel_rfl

theorem under64 : Try.prog.underlying 27 = some (.slice 3) := under27
theorem under65 : Try.prog.underlying 30 = some (.slice 29) := under30
theorem under24 : Try.prog.underlying 22 = some (.slice 32) := under22

/-- Numbers of one's own. -/
def IOwn (w : World) (B : Nat) (v : Value) (l : List Int) : Prop := w.ownsRow B 3 1 v l.length (l.map vI)
theorem IOwn.fr {S : Nat → Prop} {w w' : World} {B : Nat} {v : Value} {l : List Int} (h : IOwn w B v l) (f : Fr S w w') (hS : ∀ k, v.ownBlock = some k → ¬ S k) : IOwn w' B v l := ownsRow_fr h f hS
theorem IOwn.ge {w : World} {B : Nat} {v : Value} {l : List Int} (h : IOwn w B v l) : ∀ k, v.ownBlock = some k → B ≤ k ∧ k < w.heap.size := World.ownsRow.lt h
theorem IOwn.mono {w : World} {B B' : Nat} {v : Value} {l : List Int} (h : IOwn w B v l) (hB : B' ≤ B) : IOwn w B' v l := World.ownsRow.mono h hB
theorem IOwn.ia {w : World} {B : Nat} {v : Value} {l : List Int} (h : IOwn w B v l) : IA w v l := by
  rcases h.2 with ⟨h2, h3⟩ | ⟨g, cap, cur, e, h3, h4, h5, h6, h7, h8⟩
  · exact ⟨none, 0, by rw [h2, h3], fun hne => absurd (List.eq_nil_of_length_eq_zero h3) hne⟩
  · refine ⟨_, cap, e, fun _ => ⟨g, 0, rfl, heap_lt h4, fun i hi => ?_⟩⟩
    rw [Nat.zero_add, cell_of h4]
    have : cur[i]? = (l.map vI)[i]? := by rw [← h8, List.getElem?_take, if_pos (by omega), Array.getElem?_toList]
    rw [this]
    simp [hi]
theorem grown_frL {w w' : World} {row : Option Nat} (h : w.grownBy w' row) : Fr (fun k => row = some k) w w' :=
  ⟨h.os, h.tape, h.output, h.size, fun k hk hS => h.block k hk (fun e => hS e.symm)⟩
theorem grow_fr0 {w wr w6 : World} {v : Value} (h : Fr (fun _ => False) w wr) (hg : wr.grownBy w6 v.ownBlock) (hb : ∀ k, v.ownBlock = some k → w.heap.size ≤ k) : Fr (fun _ => False) w w6 :=
  h.then (grown_frL hg) (fun j hj e => by have := hb j e; omega)

set_option maxRecDepth 100000 in
set_option maxHeartbeats 1000000 in
theorem copyInts_any (v : Value) (es : List Int) (w : World) (hE : IA w v es) (hel : es.length ≤ 17592186043904) : Calls Try.prog 20 #[v] w fun e w' => ∃ v', e = .returned v' ∧ IOwn w' w.heap.size v' es ∧ Fr (fun _ => False) w w' := by
  obtain ⟨ea, ec, rfl, hein⟩ := hE
  have HE : Hd _ := hein
  clear hein
  obtain ⟨i3, hi3, hz3, hs3, hb3⟩ := info_parts (P := Try.prog) (e := 3) (z := .int .i64 0) (size := 1) (bytes := 8) (by kernel_rfl)
  go_enter Try.func20, Try.ntmps20
  go_wp2_with fail
  go_loopw [3, 4] (fun mv v wr => ∃ (k : Nat), v = .int .i64 k ∧ k ≤ es.length ∧ Hd (IOwn wr w.heap.size mv (es.take k)) ∧ Hd (Fr (fun _ => False) w wr)) (fun _ v _ => match v with | .int _ q => es.length - q.toNat | _ => 0)
  case atStart => exact ⟨0, rfl, Nat.zero_le _, World.ownsRow_nil _ _ _ _, Fr.refl _ _⟩
  case round =>
    obtain ⟨k, rfl, hk, HO, HF⟩ := hrel
    by_cases hlt : k < es.length
    · obtain ⟨pk, po, rfl, hpk, hcs⟩ := HE.out (by intro e; simp [e] at hlt)
      have d0 := hcs k hlt
      have p0 := (HF.out.cell (o := po + k) hpk (fun h => h)).trans d0
      clear hcs d0
      have HT : Hd (es.take (k + 1) = es.take k ++ [es[k]]) := by unfold Hd; rw [List.take_add_one, List.getElem?_eq_getElem hlt]; rfl
      have HTL : Hd ((es.take k).length = k) := by unfold Hd; rw [List.length_take]; omega
      obtain ⟨e, he⟩ : ∃ e, es[k] = e := ⟨_, rfl⟩
      rw [he] at p0 HT
      clear he
      obtain ⟨E, hE⟩ : ∃ E, E = es.take k := ⟨_, rfl⟩
      rw [← hE] at HO HT HTL
      clear hE
      have hk0 : (0 : Int) ≤ k := by omega
      have hk1 : (k : Int) < es.length := by omega
      have hsz := HF.out.size
      have HO1 : Hd ((wr.alloc (.cells #[vI e] 3)).ownsRow w.heap.size 3 1 u3 E.length (E.map vI)) := World.ownsRow.alloc HO.out _
      have hnews : ∀ j u, [vI e][j]? = some u → (wr.alloc (.cells #[vI e] 3)).cell? ((⟨wr.heap.size, 0, none⟩ : Addr).add j) = some u :=
        World.news_of_block (cs := #[vI e]) (heap_new wr (.cells #[vI e] 3))
      have hbase : w.heap.size ≤ (wr.alloc (.cells #[vI e] 3)).heap.size := by simp; omega
      have hEl : E.length + 1 ≤ 17592186043905 := by have := HTL.out; omega
      go_wp2_with ((at_builtin; refine Hd.out ?_))
      unfold Hd
      refine wpList_append_lies _ rfl (.tmp 11) (.tmp 16) 27 rfl w.heap.size 3 i3 (.int .i64 0) 1 8 under64 hi3 hz3 hs3 hb3 rfl (by omega) u3 E.length _ rfl HO1.out ⟨wr.heap.size, 0, none⟩ 1 1 [vI e] rfl rfl hnews (by intro u hu; simp at hu; subst hu; rfl) (by omega) (by unfold maxLen; omega) (by omega) hbase (wr.heap.size + 1) (by simp) ?_
      intro g6 cap6 w6 hown6 hgrow6 hat6 hlt6
      have HO6 : Hd (IOwn w6 w.heap.size (.slice (some ⟨g6, 0, none⟩) (E.length + 1) cap6) (E ++ [e])) := by unfold Hd IOwn; rw [List.map_append, List.length_append]; exact hown6
      have HF6 : Hd (Fr (fun _ => False) w w6) := grow_fr0 (HF.out.alloc _) hgrow6 (fun k hk => (HO.out.ge k hk).1)
      clear hown6 hgrow6 hat6 hlt6 HO HF HO1 hnews hbase p0
      go_wp2_with fail
      refine ⟨⟨k + 1, by simp, by omega, ?_, HF6.out⟩, by simp; omega⟩
      unfold Hd; rw [HT.out]; exact HO6.out
    · have hke : k = es.length := by omega
      subst hke
      have HO2 : Hd (IOwn wr w.heap.size u3 es) := by have := HO.out; rw [List.take_length] at this; exact this
      clear HO
      go_wp2_with fail
      go_ret
      exact ⟨u3, rfl, HO2.out, HF.out⟩

set_option maxRecDepth 100000 in
set_option maxHeartbeats 1000000 in
/-- EqInts of two lists of the same numbers. -/
theorem eqInts_same (v1 v2 : Value) (zs : List Int) (w : World) (h1 : IA w v1 zs) (h2 : IA w v2 zs) (hz : zs.length ≤ 17592186043904) :
    Calls Try.prog 15 #[v1, v2] w fun e w' => e = .returned (.bool true) ∧ Fr (fun _ => False) w w' := by
  obtain ⟨a1, c1, rfl, hc1⟩ := h1
  obtain ⟨a2, c2, rfl, hc2⟩ := h2
  have H1 : Hd _ := hc1
  have H2 : Hd _ := hc2
  clear hc1 hc2
  go_enter Try.func15, Try.ntmps15
  go_wp2_with fail
  go_loopw [5] (fun v wr => ∃ (k : Nat), v = .int .i64 k ∧ k ≤ zs.length ∧ Hd (Fr (fun _ => False) w wr)) (fun v _ => match v with | .int _ q => zs.length - q.toNat | _ => 0)
  case atStart => exact ⟨0, rfl, Nat.zero_le _, Fr.refl _ _⟩
  case round =>
    obtain ⟨k, rfl, hk, HF⟩ := hrel
    by_cases hlt : k < zs.length
    · have hne : zs ≠ [] := by intro e; simp [e] at hlt
      obtain ⟨k1, o1, rfl, hk1, g1⟩ := H1.out hne
      obtain ⟨k2, o2, rfl, hk2, g2⟩ := H2.out hne
      have q1 := (HF.out.cell (o := o1 + k) hk1 (fun h => h)).trans (g1 k hlt)
      have q2 := (HF.out.cell (o := o2 + k) hk2 (fun h => h)).trans (g2 k hlt)
      generalize zs[k] = z at *
      have hk0 : (0 : Int) ≤ k := by omega
      have hk3 : (k : Int) < zs.length := by omega
      clear g1 g2
      go_wp2_with fail
      refine wp_region_still_tail 8 mixed (by kernel_rfl) ?_
      simp only [List.take_succ_cons, List.take_zero, List.drop_succ_cons, List.drop_zero]
      repeat still_step
      refine wpStill_nil ?_
      go_wp2_with fail
      exact ⟨⟨k + 1, by simp, by omega, HF.out.drew⟩, by simp; omega⟩
    · have hke : k = zs.length := by omega
      subst hke
      go_wp2_with fail
      go_ret
      exact ⟨rfl, HF.out⟩


end Go.Proofs.Ytdkijecnnmncnaa

namespace Go.Proofs.Ytdkijecnnmncnaa
open Go.RowKit (wrap32 wrap64)
set_option linter.unusedVariables false
set_option linter.unusedSimpArgs false
theorem list7 {α : Type} : ∀ (l : List α), l.length = 7 → ∃ a b c d e f g, l = [a, b, c, d, e, f, g]
  | [a, b, c, d, e, f, g], _ => ⟨a, b, c, d, e, f, g, rfl⟩
theorem list4 {α : Type} : ∀ (l : List α), l.length = 4 → ∃ a b c d, l = [a, b, c, d]
  | [a, b, c, d], _ => ⟨a, b, c, d, rfl⟩

/-! ### instructions -/
abbrev iR (c : PI) (p : Value × Value) : List Value := [vI c.op, vI c.r, vI c.s, vI c.t, vI c.n, p.1, p.2]
/-- Instructions that lie somewhere. -/
def CA (w : World) (v : Value) (cs : List PI) : Prop :=
  ∃ a cp, v = .slice a cs.length cp ∧ (cs ≠ [] → ∃ k o, a = some ⟨k, o, none⟩ ∧ k < w.heap.size ∧ ∀ j (h : j < cs.length), ∃ av rv,
    w.cell? ⟨k, o + j * 7, none⟩ = some (vI cs[j].op) ∧ w.cell? ⟨k, o + j * 7 + 1, none⟩ = some (vI cs[j].r) ∧ w.cell? ⟨k, o + j * 7 + 2, none⟩ = some (vI cs[j].s) ∧ w.cell? ⟨k, o + j * 7 + 3, none⟩ = some (vI cs[j].t) ∧ w.cell? ⟨k, o + j * 7 + 4, none⟩ = some (vI cs[j].n) ∧
    w.cell? ⟨k, o + j * 7 + 5, none⟩ = some av ∧ w.cell? ⟨k, o + j * 7 + 6, none⟩ = some rv ∧ IA w av cs[j].args ∧ IA w rv cs[j].rets)
theorem CA.stay {w w' : World} {v : Value} {cs : List PI} (h : CA w v cs) (f : Fr (fun _ => False) w w') : CA w' v cs := by
  obtain ⟨a, cp, rfl, h⟩ := h
  refine ⟨a, cp, rfl, fun hne => ?_⟩
  obtain ⟨k, o, rfl, hk, hc⟩ := h hne
  refine ⟨k, o, rfl, Nat.lt_of_lt_of_le hk f.size, fun j hj => ?_⟩
  obtain ⟨av, rv, h1, h2, h3, h4, h5, h6, h7, h8, h9⟩ := hc j hj
  have g : ∀ o, w'.cell? ⟨k, o, none⟩ = w.cell? ⟨k, o, none⟩ := fun o => f.cell hk (fun h => h)
  exact ⟨av, rv, (g _).trans h1, (g _).trans h2, (g _).trans h3, (g _).trans h4, (g _).trans h5, (g _).trans h6, (g _).trans h7, h8.stay f, h9.stay f⟩

/-- How long the lists of a code are. -/
def FineC (cs : List PI) : Prop := cs.length ≤ 1599289640354 ∧ ∀ c ∈ cs, c.args.length ≤ 17592186043904 ∧ c.rets.length ≤ 17592186043904

/-- Seven stores, one behind the other. -/
def sev7 (w : World) (g q : Nat) (x : List Value) : World :=
  ((((((w.setCell ⟨g, q, none⟩ (x.getD 0 undef)).setCell ⟨g, q + 1, none⟩ (x.getD 1 undef)).setCell ⟨g, q + 2, none⟩ (x.getD 2 undef)).setCell ⟨g, q + 3, none⟩ (x.getD 3 undef)).setCell ⟨g, q + 4, none⟩ (x.getD 4 undef)).setCell ⟨g, q + 5, none⟩ (x.getD 5 undef)).setCell ⟨g, q + 6, none⟩ (x.getD 6 undef)
theorem Rws.set7 {w : World} {t g m : Nat} {R : Nat → List Value} (h : Rws w t 7 g m R) {i : Nat} (hi : i < m) (hl : (R i).length = 7) (x : List Value) (hx : x.length = 7) : Rws (sev7 w g (i * 7) x) t 7 g m (at1 R i x) := by
  have h0 := h.set1 (o := 0) hi (by omega) hl (x.getD 0 undef)
  have h1 := h0.set1 (i := i) (o := 1) hi (by omega) (by rw [at1_self]; simpa using hl) (x.getD 1 undef)
  have h2 := h1.set1 (i := i) (o := 2) hi (by omega) (by rw [at1_self, at1_self]; simpa using hl) (x.getD 2 undef)
  have h3 := h2.set1 (i := i) (o := 3) hi (by omega) (by simp only [at1_self, List.length_set]; exact hl) (x.getD 3 undef)
  have h4 := h3.set1 (i := i) (o := 4) hi (by omega) (by simp only [at1_self, List.length_set]; exact hl) (x.getD 4 undef)
  have h5 := h4.set1 (i := i) (o := 5) hi (by omega) (by simp only [at1_self, List.length_set]; exact hl) (x.getD 5 undef)
  have h6 := h5.set1 (i := i) (o := 6) hi (by omega) (by simp only [at1_self, List.length_set]; exact hl) (x.getD 6 undef)
  simp only [at1_at1, at1_self, Nat.add_zero] at h6
  obtain ⟨a, b, c, d, e, f, gg, hR⟩ := list7 _ hl
  obtain ⟨x0, x1, x2, x3, x4, x5, x6, rfl⟩ := list7 _ hx
  rw [hR] at h6
  simp only [List.set_cons_zero, List.set_cons_succ, List.getD_cons_zero, List.getD_cons_succ] at h6
  unfold sev7
  simp only [List.getD_cons_zero, List.getD_cons_succ]
  exact h6
theorem sev7_fr (w : World) (g q : Nat) (x : List Value) : Fr (fun k => k = g) w (sev7 w g q x) := by
  unfold sev7
  refine Fr.setCell (S := fun k => k = g) ?_ _ _ (Or.inl rfl)
  refine Fr.setCell (S := fun k => k = g) ?_ _ _ (Or.inl rfl)
  refine Fr.setCell (S := fun k => k = g) ?_ _ _ (Or.inl rfl)
  refine Fr.setCell (S := fun k => k = g) ?_ _ _ (Or.inl rfl)
  refine Fr.setCell (S := fun k => k = g) ?_ _ _ (Or.inl rfl)
  refine Fr.setCell (S := fun k => k = g) ?_ _ _ (Or.inl rfl)
  refine Fr.setCell (S := fun k => k = g) ?_ _ _ (Or.inl rfl)
  exact Fr.refl _ _

/-! ### functions -/
abbrev fR (f : PF) (cv : Value) : List Value := [vI f.P, vI f.R, vI f.V, cv]
/-- Functions that lie somewhere. -/
def FA (w : World) (v : Value) (fs : List PF) : Prop :=
  ∃ a cp, v = .slice a fs.length cp ∧ (fs ≠ [] → ∃ k o, a = some ⟨k, o, none⟩ ∧ k < w.heap.size ∧ ∀ j (h : j < fs.length), ∃ cv,
    w.cell? ⟨k, o + j * 4, none⟩ = some (vI fs[j].P) ∧ w.cell? ⟨k, o + j * 4 + 1, none⟩ = some (vI fs[j].R) ∧ w.cell? ⟨k, o + j * 4 + 2, none⟩ = some (vI fs[j].V) ∧ w.cell? ⟨k, o + j * 4 + 3, none⟩ = some cv ∧ CA w cv fs[j].code)
theorem FA.stay {w w' : World} {v : Value} {fs : List PF} (h : FA w v fs) (f : Fr (fun _ => False) w w') : FA w' v fs := by
  obtain ⟨a, cp, rfl, h⟩ := h
  refine ⟨a, cp, rfl, fun hne => ?_⟩
  obtain ⟨k, o, rfl, hk, hc⟩ := h hne
  refine ⟨k, o, rfl, Nat.lt_of_lt_of_le hk f.size, fun j hj => ?_⟩
  obtain ⟨cv, h1, h2, h3, h4, h5⟩ := hc j hj
  have g : ∀ o, w'.cell? ⟨k, o, none⟩ = w.cell? ⟨k, o, none⟩ := fun o => f.cell hk (fun h => h)
  exact ⟨cv, (g _).trans h1, (g _).trans h2, (g _).trans h3, (g _).trans h4, h5.stay f⟩

def FineP (fs : List PF) : Prop := fs.length ≤ 2932031007317 ∧ ∀ f ∈ fs, FineC f.code

def fou4 (w : World) (g q : Nat) (x : List Value) : World :=
  (((w.setCell ⟨g, q, none⟩ (x.getD 0 undef)).setCell ⟨g, q + 1, none⟩ (x.getD 1 undef)).setCell ⟨g, q + 2, none⟩ (x.getD 2 undef)).setCell ⟨g, q + 3, none⟩ (x.getD 3 undef)
theorem Rws.set4 {w : World} {t g m : Nat} {R : Nat → List Value} (h : Rws w t 4 g m R) {i : Nat} (hi : i < m) (hl : (R i).length = 4) (x : List Value) (hx : x.length = 4) : Rws (fou4 w g (i * 4) x) t 4 g m (at1 R i x) := by
  have h0 := h.set1 (o := 0) hi (by omega) hl (x.getD 0 undef)
  have h1 := h0.set1 (i := i) (o := 1) hi (by omega) (by simp only [at1_self, List.length_set]; exact hl) (x.getD 1 undef)
  have h2 := h1.set1 (i := i) (o := 2) hi (by omega) (by simp only [at1_self, List.length_set]; exact hl) (x.getD 2 undef)
  have h3 := h2.set1 (i := i) (o := 3) hi (by omega) (by simp only [at1_self, List.length_set]; exact hl) (x.getD 3 undef)
  simp only [at1_at1, at1_self, Nat.add_zero] at h3
  obtain ⟨a, b, c, d, hR⟩ := list4 _ hl
  obtain ⟨x0, x1, x2, x3, rfl⟩ := list4 _ hx
  rw [hR] at h3
  simp only [List.set_cons_zero, List.set_cons_succ, List.getD_cons_zero, List.getD_cons_succ] at h3
  unfold fou4
  simp only [List.getD_cons_zero, List.getD_cons_succ]
  exact h3
theorem fou4_fr (w : World) (g q : Nat) (x : List Value) : Fr (fun k => k = g) w (fou4 w g q x) := by
  unfold fou4
  refine Fr.setCell (S := fun k => k = g) ?_ _ _ (Or.inl rfl)
  refine Fr.setCell (S := fun k => k = g) ?_ _ _ (Or.inl rfl)
  refine Fr.setCell (S := fun k => k = g) ?_ _ _ (Or.inl rfl)
  refine Fr.setCell (S := fun k => k = g) ?_ _ _ (Or.inl rfl)
  exact Fr.refl _ _

end Go.Proofs.Ytdkijecnnmncnaa

namespace Go.Proofs.Ytdkijecnnmncnaa
open Go.RowKit (wrap32 wrap64)
set_option linter.unusedVariables false
set_option linter.unusedSimpArgs false

set_option maxRecDepth 100000 in
set_option maxHeartbeats 2000000 in
theorem eqInstr_same (c : PI) (x1 y1 x2 y2 : Value) (w : World) (h1 : IA w x1 c.args) (h2 : IA w y1 c.rets) (h3 : IA w x2 c.args) (h4 : IA w y2 c.rets) (hla : c.args.length ≤ 17592186043904) (hlr : c.rets.length ≤ 17592186043904) :
    Calls Try.prog 25 #[.agg #[vI c.op, vI c.r, vI c.s, vI c.t, vI c.n, x1, y1], .agg #[vI c.op, vI c.r, vI c.s, vI c.t, vI c.n, x2, y2]] w fun e w' => e = .returned (.bool true) ∧ Fr (fun _ => False) w w' := by
  obtain ⟨a1, b1, e1, -⟩ := id h1
  obtain ⟨a2, b2, e2, -⟩ := id h2
  obtain ⟨a3, b3, e3, -⟩ := id h3
  obtain ⟨a4, b4, e4, -⟩ := id h4
  have hF : Fr (fun _ => False) w ((w.alloc (.cells #[vI c.op, vI c.r, vI c.s, vI c.t, vI c.n, x1, y1] 29)).alloc (.cells #[vI c.op, vI c.r, vI c.s, vI c.t, vI c.n, x2, y2] 29)) := Fr.alloc (Fr.alloc (Fr.refl _ w) _) _
  have HB1 : Hd (((w.alloc (.cells #[vI c.op, vI c.r, vI c.s, vI c.t, vI c.n, x1, y1] 29)).alloc (.cells #[vI c.op, vI c.r, vI c.s, vI c.t, vI c.n, x2, y2] 29)).heap[w.heap.size]? = some (.cells #[vI c.op, vI c.r, vI c.s, vI c.t, vI c.n, x1, y1] 29)) := by
    unfold Hd; rw [Go.RowKit.Below.heap_alloc _ _ _ (by simp)]; exact heap_new w _
  have HB2 : Hd (((w.alloc (.cells #[vI c.op, vI c.r, vI c.s, vI c.t, vI c.n, x1, y1] 29)).alloc (.cells #[vI c.op, vI c.r, vI c.s, vI c.t, vI c.n, x2, y2] 29)).heap[w.heap.size + 1]? = some (.cells #[vI c.op, vI c.r, vI c.s, vI c.t, vI c.n, x2, y2] 29)) := by
    unfold Hd; rw [show w.heap.size + 1 = (w.alloc (.cells #[vI c.op, vI c.r, vI c.s, vI c.t, vI c.n, x1, y1] 29)).heap.size by simp]; exact heap_new _ _
  have H1 := h1.stay hF
  have H2 := h2.stay hF
  have H3 := h3.stay hF
  have H4 := h4.stay hF
  have G1 : Hd _ := H1
  have G2 : Hd _ := H2
  have G3 : Hd _ := H3
  have G4 : Hd _ := H4
  have HF : Hd _ := hF
  clear h1 h2 h3 h4 H1 H2 H3 H4 hF
  subst e1; subst e2; subst e3; subst e4
  have q0 : (c.op == c.op) = true := by simp
  have q1 : (c.r == c.r) = true := by simp
  have q2 : (c.s == c.s) = true := by simp
  have q3 : (c.t == c.t) = true := by simp
  have q4 : (c.n == c.n) = true := by simp
  go_enter Try.func25, Try.ntmps25
  go_upto_region 1 with fail
  generalize (w.alloc (.cells #[vI c.op, vI c.r, vI c.s, vI c.t, vI c.n, .slice a1 c.args.length b1, .slice a2 c.rets.length b2] 29)).alloc (.cells #[vI c.op, vI c.r, vI c.s, vI c.t, vI c.n, .slice a3 c.args.length b3, .slice a4 c.rets.length b4] 29) = wa at *
  have c0 : wa.cell? ⟨w.heap.size, 0, none⟩ = some (vI c.op) := by rw [cell_of HB1.out]; rfl
  have c1 : wa.cell? ⟨w.heap.size, 1, none⟩ = some (vI c.r) := by rw [cell_of HB1.out]; rfl
  have c2 : wa.cell? ⟨w.heap.size, 2, none⟩ = some (vI c.s) := by rw [cell_of HB1.out]; rfl
  have c3 : wa.cell? ⟨w.heap.size, 3, none⟩ = some (vI c.t) := by rw [cell_of HB1.out]; rfl
  have c4 : wa.cell? ⟨w.heap.size, 4, none⟩ = some (vI c.n) := by rw [cell_of HB1.out]; rfl
  have c5 : wa.cell? ⟨w.heap.size, 5, none⟩ = some (.slice a1 c.args.length b1) := by rw [cell_of HB1.out]; rfl
  have d0 : wa.cell? ⟨w.heap.size + 1, 0, none⟩ = some (vI c.op) := by rw [cell_of HB2.out]; rfl
  have d1 : wa.cell? ⟨w.heap.size + 1, 1, none⟩ = some (vI c.r) := by rw [cell_of HB2.out]; rfl
  have d2 : wa.cell? ⟨w.heap.size + 1, 2, none⟩ = some (vI c.s) := by rw [cell_of HB2.out]; rfl
  have d3 : wa.cell? ⟨w.heap.size + 1, 3, none⟩ = some (vI c.t) := by rw [cell_of HB2.out]; rfl
  have d4 : wa.cell? ⟨w.heap.size + 1, 4, none⟩ = some (vI c.n) := by rw [cell_of HB2.out]; rfl
  have d5 : wa.cell? ⟨w.heap.size + 1, 5, none⟩ = some (.slice a3 c.args.length b3) := by rw [cell_of HB2.out]; rfl
  go_wp2_with fail
  refine (show Calls Try.prog 15 #[.slice a1 c.args.length b1, .slice a3 c.args.length b3] wa _ from eqInts_same _ _ c.args wa G1.out G3.out hla).mono ?_
  rintro e w1 ⟨rfl, hF1⟩
  have G2' : Hd (IA w1 (.slice a2 c.rets.length b2) c.rets) := IA.stay G2.out hF1
  have G4' : Hd (IA w1 (.slice a4 c.rets.length b4) c.rets) := IA.stay G4.out hF1
  have p6 : w1.cell? ⟨w.heap.size, 6, none⟩ = some (.slice a2 c.rets.length b2) := by rw [hF1.cell (heap_lt HB1.out) (fun e => e), cell_of HB1.out]; rfl
  have r6 : w1.cell? ⟨w.heap.size + 1, 6, none⟩ = some (.slice a4 c.rets.length b4) := by rw [hF1.cell (heap_lt HB2.out) (fun e => e), cell_of HB2.out]; rfl
  have HF1 : Hd (Fr (fun _ => False) w w1) := HF.out.trans hF1
  clear hF1 c0 c1 c2 c3 c4 c5 d0 d1 d2 d3 d4 d5 HB1 HB2
  go_wp2_with fail
  refine (show Calls Try.prog 15 #[.slice a2 c.rets.length b2, .slice a4 c.rets.length b4] w1 _ from eqInts_same _ _ c.rets w1 G2'.out G4'.out hlr).mono ?_
  rintro e w2 ⟨rfl, hF2⟩
  have HF2 : Hd (Fr (fun _ => False) w w2) := HF1.out.trans hF2
  clear hF2
  go_wp2_with fail
  go_ret
  exact ⟨rfl, HF2.out⟩

set_option maxRecDepth 100000 in
set_option maxHeartbeats 2000000 in
theorem eqCode_same (v1 v2 : Value) (cs : List PI) (w : World) (h1 : CA w v1 cs) (h2 : CA w v2 cs) (hn : FineC cs) :
    Calls Try.prog 22 #[v1, v2] w fun e w' => e = .returned (.bool true) ∧ Fr (fun _ => False) w w' := by
  obtain ⟨a1, c1, rfl, hc1⟩ := h1
  obtain ⟨a2, c2, rfl, hc2⟩ := h2
  have H1 : Hd _ := hc1
  have H2 : Hd _ := hc2
  have HFI : Hd (FineC cs) := hn
  have hz := hn.1
  clear hc1 hc2 hn
  go_enter Try.func22, Try.ntmps22
  go_wp2_with fail
  go_loopw [5] (fun v wr => ∃ (k : Nat), v = .int .i64 k ∧ k ≤ cs.length ∧ Hd (Fr (fun _ => False) w wr)) (fun v _ => match v with | .int _ q => cs.length - q.toNat | _ => 0)
  case atStart => exact ⟨0, rfl, Nat.zero_le _, Fr.refl _ _⟩
  case round =>
    obtain ⟨k, rfl, hk, HF⟩ := hrel
    by_cases hlt : k < cs.length
    · have hne : cs ≠ [] := by intro e; simp [e] at hlt
      obtain ⟨k1, o1, rfl, hk1, g1⟩ := H1.out hne
      obtain ⟨k2, o2, rfl, hk2, g2⟩ := H2.out hne
      obtain ⟨x1, y1, p0, p1, p2, p3, p4, p5, p6, ix1, iy1⟩ := g1 k hlt
      obtain ⟨x2, y2, q0, q1, q2, q3, q4, q5, q6, ix2, iy2⟩ := g2 k hlt
      have m1 := fun o => HF.out.cell (o := o) hk1 (fun h => h)
      have m2 := fun o => HF.out.cell (o := o) hk2 (fun h => h)
      have p0 := (m1 _).trans p0
      have p1 := (m1 _).trans p1
      have p2 := (m1 _).trans p2
      have p3 := (m1 _).trans p3
      have p4 := (m1 _).trans p4
      have p5 := (m1 _).trans p5
      have p6 := (m1 _).trans p6
      have q0 := (m2 _).trans q0
      have q1 := (m2 _).trans q1
      have q2 := (m2 _).trans q2
      have q3 := (m2 _).trans q3
      have q4 := (m2 _).trans q4
      have q5 := (m2 _).trans q5
      have q6 := (m2 _).trans q6
      have X1 : Hd (IA wr x1 cs[k].args) := ix1.stay HF.out
      have Y1 : Hd (IA wr y1 cs[k].rets) := iy1.stay HF.out
      have X2 : Hd (IA wr x2 cs[k].args) := ix2.stay HF.out
      have Y2 : Hd (IA wr y2 cs[k].rets) := iy2.stay HF.out
      have HC : Hd (cs[k].args.length ≤ 17592186043904 ∧ cs[k].rets.length ≤ 17592186043904) := HFI.out.2 _ (List.getElem_mem hlt)
      generalize cs[k] = c at *
      obtain ⟨a, b, e1, -⟩ := ix1
      obtain ⟨a', b', e2, -⟩ := iy1
      obtain ⟨a'', b'', e3, -⟩ := ix2
      obtain ⟨a3, b3, e4, -⟩ := iy2
      subst e1; subst e2; subst e3; subst e4
      have hk0 : (0 : Int) ≤ k := by omega
      have hk3 : (k : Int) < cs.length := by omega
      clear g1 g2 m1 m2
      go_wp2_with fail
      refine wp_region_still_tail 8 mixed (by kernel_rfl) ?_
      simp only [List.take_succ_cons, List.take_zero, List.drop_succ_cons, List.drop_zero]
      repeat still_step
      refine wpStill_nil ?_
      go_wp2_with fail
      refine (show Calls Try.prog 25 #[.agg #[vI c.op, vI c.r, vI c.s, vI c.t, vI c.n, .slice a c.args.length b, .slice a' c.rets.length b'], .agg #[vI c.op, vI c.r, vI c.s, vI c.t, vI c.n, .slice a'' c.args.length b'', .slice a3 c.rets.length b3]] wr.drew _ from eqInstr_same c _ _ _ _ wr.drew X1.out Y1.out X2.out Y2.out (by have := HC.out; omega) (by have := HC.out; omega)).mono ?_
      rintro e w1 ⟨rfl, hF1⟩
      have HF1 : Hd (Fr (fun _ => False) w w1) := HF.out.drew.trans hF1
      clear hF1 p0 p1 p2 p3 p4 p5 p6 q0 q1 q2 q3 q4 q5 q6
      go_wp2_with fail
      exact ⟨⟨k + 1, by simp, by omega, HF1.out⟩, by simp; omega⟩
    · have hke : k = cs.length := by omega
      subst hke
      go_wp2_with fail
      go_ret
      exact ⟨rfl, HF.out⟩

set_option maxRecDepth 100000 in
set_option maxHeartbeats 2000000 in
theorem eqFunc_same (f : PF) (x1 x2 : Value) (w : World) (h1 : CA w x1 f.code) (h3 : CA w x2 f.code) (hn : FineC f.code) :
    Calls Try.prog 17 #[.agg #[vI f.P, vI f.R, vI f.V, x1], .agg #[vI f.P, vI f.R, vI f.V, x2]] w fun e w' => e = .returned (.bool true) ∧ Fr (fun _ => False) w w' := by
  obtain ⟨a1, b1, e1, -⟩ := id h1
  obtain ⟨a3, b3, e3, -⟩ := id h3
  have hF : Fr (fun _ => False) w ((w.alloc (.cells #[vI f.P, vI f.R, vI f.V, x1] 32)).alloc (.cells #[vI f.P, vI f.R, vI f.V, x2] 32)) := Fr.alloc (Fr.alloc (Fr.refl _ w) _) _
  have HB1 : Hd (((w.alloc (.cells #[vI f.P, vI f.R, vI f.V, x1] 32)).alloc (.cells #[vI f.P, vI f.R, vI f.V, x2] 32)).heap[w.heap.size]? = some (.cells #[vI f.P, vI f.R, vI f.V, x1] 32)) := by
    unfold Hd; rw [Go.RowKit.Below.heap_alloc _ _ _ (by simp)]; exact heap_new w _
  have HB2 : Hd (((w.alloc (.cells #[vI f.P, vI f.R, vI f.V, x1] 32)).alloc (.cells #[vI f.P, vI f.R, vI f.V, x2] 32)).heap[w.heap.size + 1]? = some (.cells #[vI f.P, vI f.R, vI f.V, x2] 32)) := by
    unfold Hd; rw [show w.heap.size + 1 = (w.alloc (.cells #[vI f.P, vI f.R, vI f.V, x1] 32)).heap.size by simp]; exact heap_new _ _
  have H1 := h1.stay hF
  have H3 := h3.stay hF
  have G1 : Hd _ := H1
  have G3 : Hd _ := H3
  have HF : Hd _ := hF
  clear h1 h3 H1 H3 hF
  subst e1; subst e3
  have q0 : (f.P == f.P) = true := by simp
  have q1 : (f.R == f.R) = true := by simp
  have q2 : (f.V == f.V) = true := by simp
  go_enter Try.func17, Try.ntmps17
  go_upto_region 1 with fail
  generalize (w.alloc (.cells #[vI f.P, vI f.R, vI f.V, .slice a1 f.code.length b1] 32)).alloc (.cells #[vI f.P, vI f.R, vI f.V, .slice a3 f.code.length b3] 32) = wa at *
  have c0 : wa.cell? ⟨w.heap.size, 0, none⟩ = some (vI f.P) := by rw [cell_of HB1.out]; rfl
  have c1 : wa.cell? ⟨w.heap.size, 1, none⟩ = some (vI f.R) := by rw [cell_of HB1.out]; rfl
  have c2 : wa.cell? ⟨w.heap.size, 2, none⟩ = some (vI f.V) := by rw [cell_of HB1.out]; rfl
  have c3 : wa.cell? ⟨w.heap.size, 3, none⟩ = some (.slice a1 f.code.length b1) := by rw [cell_of HB1.out]; rfl
  have d0 : wa.cell? ⟨w.heap.size + 1, 0, none⟩ = some (vI f.P) := by rw [cell_of HB2.out]; rfl
  have d1 : wa.cell? ⟨w.heap.size + 1, 1, none⟩ = some (vI f.R) := by rw [cell_of HB2.out]; rfl
  have d2 : wa.cell? ⟨w.heap.size + 1, 2, none⟩ = some (vI f.V) := by rw [cell_of HB2.out]; rfl
  have d3 : wa.cell? ⟨w.heap.size + 1, 3, none⟩ = some (.slice a3 f.code.length b3) := by rw [cell_of HB2.out]; rfl
  go_wp2_with fail
  refine (show Calls Try.prog 22 #[.slice a1 f.code.length b1, .slice a3 f.code.length b3] wa _ from eqCode_same _ _ f.code wa G1.out G3.out hn).mono ?_
  rintro e w1 ⟨rfl, hF1⟩
  have HF1 : Hd (Fr (fun _ => False) w w1) := HF.out.trans hF1
  clear hF1 c0 c1 c2 c3 d0 d1 d2 d3 HB1 HB2
  go_wp2_with fail
  go_ret
  exact ⟨rfl, HF1.out⟩

end Go.Proofs.Ytdkijecnnmncnaa
