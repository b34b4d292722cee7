import Derived.Test.YtjmbfjaahadbhaaDoorQA3J
import Derived.Deep.AppendLies
import Derived.Deep.Onto
import Derived.Deep.DeepCutAuto
import Derived.Deep.RegionHeld3
import Derived.Test.YtjmbfjaahadbhaaDoorRows
import Derived.Test.YtjmbfjaahadbhaaDoorCards
import Derived.Test.YtjmbfjaahadbhaaDoorTie
import Derived.ProofKit
import Derived.OpenShut
import Derived.ChangeOld
import Derived.Below
import Derived.Carry
import Derived.JoinedCond
import Derived.Deep.DeepHandedRow
import Derived.Lib.LaidTab
import Derived.BigFrame
set_option linter.unusedVariables false
set_option linter.unusedSimpArgs false
namespace Go.Proofs.YtjmbfjaahadbhaaDoor
open Go.RowKit (wrap32 wrap64)

/-! ### blocks -/
theorem heap_new (w : World) (o : Obj) : (w.alloc o).heap[w.heap.size]? = some o := (MapKept.heap_alloc w o).1
theorem heap_lt {w : World} {k : Nat} {o : Obj} (h : w.heap[k]? = some o) : k < w.heap.size := (Array.getElem?_eq_some_iff.1 h).1
theorem cell_of {w : World} {k : Nat} {cs : Array Value} {t : TypeId} (h : w.heap[k]? = some (.cells cs t)) (o : Nat) : w.cell? ⟨k, o, none⟩ = cs[o]? := by
  unfold World.cell?; rw [h]; simp
theorem frozen_of {w : World} {k : Nat} {cs : Array Value} {t : TypeId} (h : w.heap[k]? = some (.cells cs t)) (o : Nat) : w.frozen? ⟨k, o, none⟩ = false := by
  unfold World.frozen?; rw [h]; simp
theorem set_of {w : World} {k : Nat} {cs : Array Value} {t : TypeId} (h : w.heap[k]? = some (.cells cs t)) (o : Nat) (v : Value) : (w.setCell ⟨k, o, none⟩ v).heap[k]? = some (.cells (cs.setIfInBounds o v) t) := by
  unfold World.setCell
  simp only [Array.getElem?_modify]
  rw [if_pos trivial, h]
  rfl
theorem Fr.then {S S' : Nat → Prop} {a b c : World} (h : Fr S a b) (k : Fr S' b c) (hs : ∀ j, j < a.heap.size → S' j → S j) : Fr S a c :=
  ⟨k.os.trans h.os, k.tape.trans h.tape, k.output.trans h.output, Nat.le_trans h.size k.size, fun j hj hS => (k.block j (Nat.lt_of_lt_of_le hj h.size) (fun e => hS (hs j hj e))).trans (h.block j hj hS)⟩
theorem setCell_fr (w : World) (k o : Nat) (u : Value) : Fr (fun j => j = k) w (w.setCell ⟨k, o, none⟩ u) := Fr.setCell (S := fun j => j = k) (Fr.refl _ w) _ _ (Or.inl rfl)

/-- A block of m rows of sz cells each. -/
def Rws (w : World) (t sz g m : Nat) (R : Nat → List Value) : Prop := ∃ cs : Array Value, w.heap[g]? = some (.cells cs t) ∧ cs.size = m * sz ∧ ∀ i o, i < m → o < sz → cs[i * sz + o]? = some ((R i).getD o undef)

theorem Rws.lt {w : World} {t sz g m : Nat} {R : Nat → List Value} (h : Rws w t sz g m R) : g < w.heap.size := by obtain ⟨cs, h, -⟩ := h; exact heap_lt h
theorem Rws.cell {w : World} {t sz g m : Nat} {R : Nat → List Value} (h : Rws w t sz g m R) {i o : Nat} (hi : i < m) (ho : o < sz) : w.cell? ⟨g, i * sz + o, none⟩ = some ((R i).getD o undef) := by
  obtain ⟨cs, h, -, hc⟩ := h; rw [cell_of h]; exact hc i o hi ho
theorem Rws.frozen {w : World} {t sz g m : Nat} {R : Nat → List Value} (h : Rws w t sz g m R) (q : Nat) : w.frozen? ⟨g, q, none⟩ = false := by
  obtain ⟨cs, h, -⟩ := h; exact frozen_of h q
theorem Rws.fr {S : Nat → Prop} {w w' : World} {t sz g m : Nat} {R : Nat → List Value} (h : Rws w t sz g m R) (f : Fr S w w') (hS : ¬ S g) : Rws w' t sz g m R := by
  have hl := h.lt
  obtain ⟨cs, h, h2⟩ := h; exact ⟨cs, (f.block g hl hS).trans h, h2⟩
theorem Rws.congr {w : World} {t sz g m : Nat} {R R' : Nat → List Value} (h : Rws w t sz g m R) (e : ∀ i, i < m → R i = R' i) : Rws w t sz g m R' := by
  obtain ⟨cs, h, h2, h3⟩ := h
  exact ⟨cs, h, h2, fun i o hi ho => by rw [h3 i o hi ho, e i hi]⟩
/-- Another at one place. -/
def at1 {α : Type} (f : Nat → α) (i : Nat) (x : α) : Nat → α := fun j => if j = i then x else f j
theorem at1_self {α : Type} (f : Nat → α) (i : Nat) (x : α) : at1 f i x i = x := if_pos rfl
theorem at1_ne {α : Type} (f : Nat → α) {i j : Nat} (x : α) (h : j ≠ i) : at1 f i x j = f j := if_neg h
theorem at1_at1 {α : Type} (f : Nat → α) (i : Nat) (x y : α) : at1 (at1 f i x) i y = at1 f i y := by
  funext j; unfold at1; split <;> rfl
theorem row_index {sz i j o q : Nat} (ho : o < sz) (hq : q < sz) (h : i * sz + o = j * sz + q) : i = j ∧ o = q := by
  have e1 : (i * sz + o) / sz = i := by rw [Nat.mul_comm, Nat.mul_add_div (by omega), Nat.div_eq_of_lt ho]; rfl
  have e2 : (j * sz + q) / sz = j := by rw [Nat.mul_comm, Nat.mul_add_div (by omega), Nat.div_eq_of_lt hq]; rfl
  have : i = j := by rw [← e1, ← e2, h]
  subst this
  exact ⟨rfl, by omega⟩
theorem Rws.set1 {w : World} {t sz g m : Nat} {R : Nat → List Value} (h : Rws w t sz g m R) {i o : Nat} (hi : i < m) (ho : o < sz) (hl : (R i).length = sz) (v : Value) : Rws (w.setCell ⟨g, i * sz + o, none⟩ v) t sz g m (at1 R i ((R i).set o v)) := by
  obtain ⟨cs, h, h2, h3⟩ := h
  have hlt : i * sz + o < m * sz := by
    have : (i + 1) * sz ≤ m * sz := Nat.mul_le_mul_right _ hi
    rw [Nat.add_mul] at this; omega
  refine ⟨cs.setIfInBounds (i * sz + o) v, set_of h _ v, by simpa using h2, fun j q hj hq => ?_⟩
  rw [Array.getElem?_setIfInBounds]
  by_cases e : i * sz + o = j * sz + q
  · obtain ⟨rfl, rfl⟩ := row_index ho hq e
    rw [if_pos rfl, if_pos (by omega), at1_self]
    simp [List.getD_eq_getElem?_getD, hl, ho]
  · rw [if_neg e, h3 j q hj hq]
    by_cases ej : j = i
    · subst ej
      have : o ≠ q := fun eo => e (by rw [eo])
      rw [at1_self]
      simp [List.getD_eq_getElem?_getD, List.getElem?_set_ne this]
    · rw [at1_ne _ _ ej]

/-- Numbers that lie somewhere. -/
def IA (w : World) (v : Value) (l : List Int) : Prop :=
  ∃ a c, v = .slice a l.length c ∧ (l ≠ [] → ∃ k o, a = some ⟨k, o, none⟩ ∧ k < w.heap.size ∧ ∀ j (h : j < l.length), w.cell? ⟨k, o + j, none⟩ = some (vI l[j]))
theorem IA.fr {S : Nat → Prop} {w w' : World} {v : Value} {l : List Int} (h : IA w v l) (f : Fr S w w') (hS : ∀ k, v.ownBlock = some k → ¬ S k) : IA w' v l := by
  obtain ⟨a, c, rfl, h⟩ := h
  refine ⟨a, c, rfl, fun hne => ?_⟩
  obtain ⟨k, o, rfl, hk, hc⟩ := h hne
  exact ⟨k, o, rfl, Nat.lt_of_lt_of_le hk f.size, fun j hj => (f.cell hk (hS k rfl)).trans (hc j hj)⟩
theorem IA.stay {w w' : World} {v : Value} {l : List Int} (h : IA w v l) (f : Fr (fun _ => False) w w') : IA w' v l := h.fr f (fun _ _ e => e)

/-- Numbers of one's own, with marks behind. -/
def wideI (l : List Int) (i : Nat) : Int := if i < l.length then l.getD i 0 else -123456
def WI (w : World) (B : Nat) (v : Value) (l : List Int) : Prop := ∃ g, v = .slice (some ⟨g, 0, none⟩) l.length (l.length + 64) ∧ B ≤ g ∧ Rws w 3 1 g (l.length + 64) (fun i => [vI (wideI l i)])
theorem WI.fr {S : Nat → Prop} {w w' : World} {B : Nat} {v : Value} {l : List Int} (h : WI w B v l) (f : Fr S w w') (hS : ∀ k, v.ownBlock = some k → ¬ S k) : WI w' B v l := by
  obtain ⟨g, rfl, h1, h2⟩ := h
  exact ⟨g, rfl, h1, h2.fr f (hS g rfl)⟩
theorem WI.mono {w : World} {B B' : Nat} {v : Value} {l : List Int} (h : WI w B v l) (hB : B' ≤ B) : WI w B' v l := by
  obtain ⟨g, rfl, h1, h2⟩ := h
  exact ⟨g, rfl, by omega, h2⟩
theorem WI.ia {w : World} {B : Nat} {v : Value} {l : List Int} (h : WI w B v l) : IA w v l := by
  obtain ⟨g, rfl, h1, h2⟩ := h
  refine ⟨_, _, rfl, fun _ => ⟨g, 0, rfl, h2.lt, fun j hj => ?_⟩⟩
  have := h2.cell (i := j) (o := 0) (by omega) (by omega)
  rw [Nat.mul_one, Nat.add_zero] at this
  rw [Nat.zero_add, this]
  simp [wideI, hj]
theorem WI.ge {w : World} {B : Nat} {v : Value} {l : List Int} (h : WI w B v l) : ∀ k, v.ownBlock = some k → B ≤ k ∧ k < w.heap.size := by
  obtain ⟨g, rfl, h1, h2⟩ := h
  intro k e; cases e; exact ⟨h1, h2.lt⟩

theorem under64 : Tryd.prog.underlying 25 = some (.slice 3) := by kernel_rfl
theorem make64 (n : Nat) (hn : n ≤ 20000000000000) (w : World) : (Instr.makeSlice 25 (.int .i64 n) (.int .i64 n)).run Tryd.prog w = .ok (.slice (some ⟨w.heap.size, 0, none⟩) n n) (w.alloc (.cells (Array.replicate n (vI 0)) 3)) := by
  rw [run_make_of 25 3 (vI 0) 1 8 under64 (by kernel_rfl) (by kernel_rfl) (by kernel_rfl) n (by omega) (by omega) w, Nat.mul_one]
  congr 2
  congr 1
  unfold madeCells
  apply Array.ext
  · simp
  · intro i h1 h2
    simp [Nat.mod_one, Value.cells]
theorem Rws.made (w : World) (t m : Nat) (v : Value) : Rws (w.alloc (.cells (Array.replicate m v) t)) t 1 w.heap.size m (fun _ => [v]) :=
  ⟨_, heap_new w _, by simp, fun i o hi ho => by
    obtain rfl : o = 0 := by omega
    rw [Nat.mul_one, Nat.add_zero]
    simp [Array.getElem?_replicate, hi]⟩


/-- Numbers of one's own. -/
def IOwn (w : World) (B : Nat) (v : Value) (l : List Int) : Prop := w.ownsRow B 3 1 v l.length (l.map vI)
theorem ownsRow_frL {S : Nat → Prop} {w w' : World} {B e size n : Nat} {v : Value} {xs : List Value} (h : w.ownsRow B e size v n xs) (f : Fr S w w') (hS : ∀ g, v.ownBlock = some g → ¬ S g) : w'.ownsRow B e size v n xs := by
  refine ⟨h.1, ?_⟩
  rcases h.2 with h2 | ⟨g, cap, cur, rfl, h3, h4, h5⟩
  · exact Or.inl h2
  · exact Or.inr ⟨g, cap, cur, rfl, h3, by rw [f.block g ((Array.getElem?_eq_some_iff.1 h4).1) (hS g rfl)]; exact h4, h5⟩
theorem IOwn.fr {S : Nat → Prop} {w w' : World} {B : Nat} {v : Value} {l : List Int} (h : IOwn w B v l) (f : Fr S w w') (hS : ∀ k, v.ownBlock = some k → ¬ S k) : IOwn w' B v l := ownsRow_frL h f hS
theorem IOwn.ge {w : World} {B : Nat} {v : Value} {l : List Int} (h : IOwn w B v l) : ∀ k, v.ownBlock = some k → B ≤ k ∧ k < w.heap.size := World.ownsRow.lt h
theorem IOwn.mono {w : World} {B B' : Nat} {v : Value} {l : List Int} (h : IOwn w B v l) (hB : B' ≤ B) : IOwn w B' v l := World.ownsRow.mono h hB
theorem IOwn.ia {w : World} {B : Nat} {v : Value} {l : List Int} (h : IOwn w B v l) : IA w v l := by
  rcases h.2 with ⟨h2, h3⟩ | ⟨g, cap, cur, e, h3, h4, h5, h6, h7, h8⟩
  · exact ⟨none, 0, by rw [h2, h3], fun hne => absurd (List.eq_nil_of_length_eq_zero h3) hne⟩
  · refine ⟨_, cap, e, fun _ => ⟨g, 0, rfl, heap_lt h4, fun i hi => ?_⟩⟩
    rw [Nat.zero_add, cell_of h4]
    have : cur[i]? = (l.map vI)[i]? := by rw [← h8, List.getElem?_take, if_pos (by omega), Array.getElem?_toList]
    rw [this]
    simp [hi]
theorem grown_frL {w w' : World} {row : Option Nat} (h : w.grownBy w' row) : Fr (fun k => row = some k) w w' :=
  ⟨h.os, h.tape, h.output, h.size, fun k hk hS => h.block k hk (fun e => hS e.symm)⟩
theorem grow_fr0 {w wr w6 : World} {v : Value} (h : Fr (fun _ => False) w wr) (hg : wr.grownBy w6 v.ownBlock) (hb : ∀ k, v.ownBlock = some k → w.heap.size ≤ k) : Fr (fun _ => False) w w6 :=
  h.then (grown_frL hg) (fun j hj e => by have := hb j e; omega)

set_option maxRecDepth 100000 in
set_option maxHeartbeats 1000000 in
theorem copyInts_any (v : Value) (es : List Int) (w : World) (hE : IA w v es) (hel : es.length ≤ 17592186043904) : Calls Tryd.prog 38 #[v] w fun e w' => ∃ v', e = .returned v' ∧ IOwn w' w.heap.size v' es ∧ Fr (fun _ => False) w w' := by
  obtain ⟨ea, ec, rfl, hein⟩ := hE
  have HE : Hd _ := hein
  clear hein
  obtain ⟨i3, hi3, hz3, hs3, hb3⟩ := info_parts (P := Tryd.prog) (e := 3) (z := .int .i64 0) (size := 1) (bytes := 8) (by kernel_rfl)
  go_enter Tryd.func38, Tryd.ntmps38
  go_wp2_with fail
  go_loopw [3, 4] (fun mv v wr => ∃ (k : Nat), v = .int .i64 k ∧ k ≤ es.length ∧ Hd (IOwn wr w.heap.size mv (es.take k)) ∧ Hd (Fr (fun _ => False) w wr)) (fun _ v _ => match v with | .int _ q => es.length - q.toNat | _ => 0)
  case atStart => exact ⟨0, rfl, Nat.zero_le _, World.ownsRow_nil _ _ _ _, Fr.refl _ _⟩
  case round =>
    obtain ⟨k, rfl, hk, HO, HF⟩ := hrel
    by_cases hlt : k < es.length
    · obtain ⟨pk, po, rfl, hpk, hcs⟩ := HE.out (by intro e; simp [e] at hlt)
      have d0 := hcs k hlt
      have p0 := (HF.out.cell (o := po + k) hpk (fun h => h)).trans d0
      clear hcs d0
      have HT : Hd (es.take (k + 1) = es.take k ++ [es[k]]) := by unfold Hd; rw [List.take_add_one, List.getElem?_eq_getElem hlt]; rfl
      have HTL : Hd ((es.take k).length = k) := by unfold Hd; rw [List.length_take]; omega
      obtain ⟨e, he⟩ : ∃ e, es[k] = e := ⟨_, rfl⟩
      rw [he] at p0 HT
      clear he
      obtain ⟨E, hE⟩ : ∃ E, E = es.take k := ⟨_, rfl⟩
      rw [← hE] at HO HT HTL
      clear hE
      have hk0 : (0 : Int) ≤ k := by omega
      have hk1 : (k : Int) < es.length := by omega
      have hsz := HF.out.size
      have HO1 : Hd ((wr.alloc (.cells #[vI e] 3)).ownsRow w.heap.size 3 1 u3 E.length (E.map vI)) := World.ownsRow.alloc HO.out _
      have hnews : ∀ j u, [vI e][j]? = some u → (wr.alloc (.cells #[vI e] 3)).cell? ((⟨wr.heap.size, 0, none⟩ : Addr).add j) = some u :=
        World.news_of_block (cs := #[vI e]) (heap_new wr (.cells #[vI e] 3))
      have hbase : w.heap.size ≤ (wr.alloc (.cells #[vI e] 3)).heap.size := by simp; omega
      have hEl : E.length + 1 ≤ 17592186043905 := by have := HTL.out; omega
      go_wp2_with ((at_builtin; refine Hd.out ?_))
      unfold Hd
      refine wpList_append_lies _ rfl (.tmp 11) (.tmp 16) 25 rfl w.heap.size 3 i3 (.int .i64 0) 1 8 under64 hi3 hz3 hs3 hb3 rfl (by omega) u3 E.length _ rfl HO1.out ⟨wr.heap.size, 0, none⟩ 1 1 [vI e] rfl rfl hnews (by intro u hu; simp at hu; subst hu; rfl) (by omega) (by unfold maxLen; omega) (by omega) hbase (wr.heap.size + 1) (by simp) ?_
      intro g6 cap6 w6 hown6 hgrow6 hat6 hlt6
      have HO6 : Hd (IOwn w6 w.heap.size (.slice (some ⟨g6, 0, none⟩) (E.length + 1) cap6) (E ++ [e])) := by unfold Hd IOwn; rw [List.map_append, List.length_append]; exact hown6
      have HF6 : Hd (Fr (fun _ => False) w w6) := grow_fr0 (HF.out.alloc _) hgrow6 (fun k hk => (HO.out.ge k hk).1)
      clear hown6 hgrow6 hat6 hlt6 HO HF HO1 hnews hbase p0
      go_wp2_with fail
      refine ⟨⟨k + 1, by simp, by omega, ?_, HF6.out⟩, by simp; omega⟩
      unfold Hd; rw [HT.out]; exact HO6.out
    · have hke : k = es.length := by omega
      subst hke
      have HO2 : Hd (IOwn wr w.heap.size u3 es) := by have := HO.out; rw [List.take_length] at this; exact this
      clear HO
      go_wp2_with fail
      go_ret
      exact ⟨u3, rfl, HO2.out, HF.out⟩

set_option maxRecDepth 100000 in
set_option maxHeartbeats 1000000 in
/-- EqInts of two lists of the same numbers. -/
theorem eqInts_same (v1 v2 : Value) (zs : List Int) (w : World) (h1 : IA w v1 zs) (h2 : IA w v2 zs) (hz : zs.length ≤ 17592186043904) :
    Calls Tryd.prog 36 #[v1, v2] w fun e w' => e = .returned (.bool true) ∧ Fr (fun _ => False) w w' := by
  obtain ⟨a1, c1, rfl, hc1⟩ := h1
  obtain ⟨a2, c2, rfl, hc2⟩ := h2
  have H1 : Hd _ := hc1
  have H2 : Hd _ := hc2
  clear hc1 hc2
  go_enter Tryd.func36, Tryd.ntmps36
  go_wp2_with fail
  go_loopw [5] (fun v wr => ∃ (k : Nat), v = .int .i64 k ∧ k ≤ zs.length ∧ Hd (Fr (fun _ => False) w wr)) (fun v _ => match v with | .int _ q => zs.length - q.toNat | _ => 0)
  case atStart => exact ⟨0, rfl, Nat.zero_le _, Fr.refl _ _⟩
  case round =>
    obtain ⟨k, rfl, hk, HF⟩ := hrel
    by_cases hlt : k < zs.length
    · have hne : zs ≠ [] := by intro e; simp [e] at hlt
      obtain ⟨k1, o1, rfl, hk1, g1⟩ := H1.out hne
      obtain ⟨k2, o2, rfl, hk2, g2⟩ := H2.out hne
      have q1 := (HF.out.cell (o := o1 + k) hk1 (fun h => h)).trans (g1 k hlt)
      have q2 := (HF.out.cell (o := o2 + k) hk2 (fun h => h)).trans (g2 k hlt)
      generalize zs[k] = z at *
      have hk0 : (0 : Int) ≤ k := by omega
      have hk3 : (k : Int) < zs.length := by omega
      clear g1 g2
      go_wp2_with fail
      refine wp_region_still_tail 8 mixed (by kernel_rfl) ?_
      simp only [List.take_succ_cons, List.take_zero, List.drop_succ_cons, List.drop_zero]
      repeat still_step
      refine wpStill_nil ?_
      go_wp2_with fail
      exact ⟨⟨k + 1, by simp, by omega, HF.out.drew⟩, by simp; omega⟩
    · have hke : k = zs.length := by omega
      subst hke
      go_wp2_with fail
      go_ret
      exact ⟨rfl, HF.out⟩

end Go.Proofs.YtjmbfjaahadbhaaDoor
namespace Go.Proofs.YtjmbfjaahadbhaaDoor
open Go.ChangeShapes Go.WideShapes Go.ChangeAt Go.RowKit

theorem knob : ownKnob Tryd.prog.godebug = none := by kernel_rfl
theorem laysOut : laidOutB Tryd.prog = true := by kernel_rfl
theorem gTab : Tryd.prog.globalNamed "fugue/code.numberSizes" = some 0 := by kernel_rfl
theorem gTabType : (Tryd.prog.globals[0]?).map (·.type) = some 140 := by kernel_rfl
theorem under140 : Tryd.prog.underlying 140 = some (.array 18 3) := by kernel_rfl
theorem und3 : Tryd.prog.underlying 3 = some (.int .i64) := by kernel_rfl
theorem under4 : Tryd.prog.underlying 4 = some .bool := by kernel_rfl
theorem cel3 : Tryd.prog.cellsOf 3 = 1 := by kernel_rfl
theorem cells140 : Tryd.prog.cellsOf 140 = 18 := by kernel_rfl
/-- The list of the row gives the table's cells. -/
theorem tab_of {W : World} (h : laidMetH Tryd.prog Rows.callsLongRow.laid W) : Tab W := by
  have ht : Lib.TabIs Tryd.prog W "fugue/code.numberSizes" .i64 [0, 8, 0, 0, 0, 0, 1, 1, 1, 1, 1, 2, 0, 2, 2, 0, 0, 0] := Lib.tabIs_of_head (rest := []) gTab gTabType under140 und3 cel3 cells140 h
  intro op hop
  have hc := ht.cell gTab op (by simpa using hop)
  rw [hc]
  simp only [Option.some.injEq, Value.int.injEq, true_and]
  match op, hop with
  | 0, _ | 1, _ | 2, _ | 3, _ | 4, _ | 5, _ | 6, _ | 7, _ | 8, _ | 9, _ | 10, _ | 11, _ | 12, _ | 13, _ | 14, _ | 15, _ | 16, _ | 17, _ => rfl
  | n + 18, h => exact absurd h (by omega)
end Go.Proofs.YtjmbfjaahadbhaaDoor
namespace Go.Proofs.YtjmbfjaahadbhaaDoor
open Go.RowKit (wrap32 wrap64)

/-- A call that gives nothing back, or panics. -/
def Plain (R : Ending → World → Prop) (e : Ending) (w' : World) : Prop := (e = .returned (.tuple #[]) ∨ ∃ c, e = .panicked c) ∧ R e w'

set_option maxRecDepth 100000 in
set_option maxHeartbeats 1000000 in
theorem ownResults_any {b : Nat} (o n : Nat) (s : WS) (w : World) (h : Lies w b s) (hn : s.fR = n) (R : Ending → World → Prop)
    (hc : Calls Tryd.prog 100 #[.pointer (some ⟨b, 0, none⟩), .pointer (some ⟨b, o, none⟩), .int .i64 n] w (Plain R)) :
    Calls Tryd.prog 90 #[.pointer (some ⟨b, 0, none⟩), .pointer (some ⟨b, o, none⟩)] w R := by
  have c150 : w.cell? ⟨b, 150, none⟩ = some (vI n) := by rw [h.facts.2.2.2.2.2.2.1, hn]
  go_enter Tryd.func90, Tryd.ntmps90
  go_wp2_with fail
  refine hc.mono ?_
  rintro e w' ⟨rfl | ⟨c, rfl⟩, hr⟩
  · go_wp2_with fail
    go_end0
    exact hr
  · go_wp2_with fail
    exact ⟨rfl, hr⟩

set_option maxRecDepth 100000 in
set_option maxHeartbeats 1000000 in
theorem calleeParams_any {b : Nat} (o n N fb fo nf fc : Nat) (s : WS) (w : World) (h : Lies w b s) (hN : s.n = N) (hNf : N < nf) (hfu : s.funcs = .slice (some ⟨fb, fo, none⟩) nf fc) (hcn : w.cell? ⟨fb, fo + N * 4, none⟩ = some (vI n)) (R : Ending → World → Prop)
    (hc : Calls Tryd.prog 100 #[.pointer (some ⟨b, 0, none⟩), .pointer (some ⟨b, o, none⟩), .int .i64 n] w.drew (Plain R)) :
    Calls Tryd.prog 87 #[.pointer (some ⟨b, 0, none⟩), .pointer (some ⟨b, o, none⟩)] w R := by
  have c158 : w.cell? ⟨b, 158, none⟩ = some (vI N) := by rw [h.facts.2.2.2.2.2.2.2.2.2.2.2.2.2.2.1, hN]
  have c147 : w.cell? ⟨b, 147, none⟩ = some (.slice (some ⟨fb, fo, none⟩) nf fc) := by rw [h.facts.2.2.2.1, hfu]
  have hb : 0 ≤ (N : Int) ∧ (N : Int) < nf := by omega
  go_enter Tryd.func87, Tryd.ntmps87
  go_wp2_with fail
  refine wp_region_still_tail 14 mixed (by kernel_rfl) ?_
  simp only [List.take_succ_cons, List.take_zero, List.drop_succ_cons, List.drop_zero]
  repeat still_step
  refine wpStill_nil ?_
  go_wp2_with fail
  refine hc.mono ?_
  rintro e w' ⟨rfl | ⟨c, rfl⟩, hr⟩
  · go_wp2_with fail
    go_end0
    exact hr
  · go_wp2_with fail
    exact ⟨rfl, hr⟩

set_option maxRecDepth 100000 in
set_option maxHeartbeats 1000000 in
theorem calleeResults_any {b : Nat} (o n N fb fo nf fc : Nat) (s : WS) (w : World) (h : Lies w b s) (hN : s.n = N) (hNf : N < nf) (hfu : s.funcs = .slice (some ⟨fb, fo, none⟩) nf fc) (hcn : w.cell? ⟨fb, fo + N * 4 + 1, none⟩ = some (vI n)) (R : Ending → World → Prop)
    (hc : Calls Tryd.prog 100 #[.pointer (some ⟨b, 0, none⟩), .pointer (some ⟨b, o, none⟩), .int .i64 n] w.drew (Plain R)) :
    Calls Tryd.prog 88 #[.pointer (some ⟨b, 0, none⟩), .pointer (some ⟨b, o, none⟩)] w R := by
  have c158 : w.cell? ⟨b, 158, none⟩ = some (vI N) := by rw [h.facts.2.2.2.2.2.2.2.2.2.2.2.2.2.2.1, hN]
  have c147 : w.cell? ⟨b, 147, none⟩ = some (.slice (some ⟨fb, fo, none⟩) nf fc) := by rw [h.facts.2.2.2.1, hfu]
  have hb : 0 ≤ (N : Int) ∧ (N : Int) < nf := by omega
  go_enter Tryd.func88, Tryd.ntmps88
  go_wp2_with fail
  refine wp_region_still_tail 14 mixed (by kernel_rfl) ?_
  simp only [List.take_succ_cons, List.take_zero, List.drop_succ_cons, List.drop_zero]
  repeat still_step
  refine wpStill_nil ?_
  go_wp2_with fail
  refine hc.mono ?_
  rintro e w' ⟨rfl | ⟨c, rfl⟩, hr⟩
  · go_wp2_with fail
    go_end0
    exact hr
  · go_wp2_with fail
    exact ⟨rfl, hr⟩

end Go.Proofs.YtjmbfjaahadbhaaDoor
namespace Go.Proofs.YtjmbfjaahadbhaaDoor
theorem run_neq81_f (f : Nat) (w : World) : (binOp .neq 105 (vF f) .nilFunc).run Tryd.prog w = .ok (.bool true) w := by kernel_rfl
theorem run_neq81_n (w : World) : (binOp .neq 105 vN .nilFunc).run Tryd.prog w = .ok (.bool false) w := by kernel_rfl
theorem run_neq82_f (f : Nat) (w : World) : (binOp .neq 106 (vF f) .nilFunc).run Tryd.prog w = .ok (.bool true) w := by kernel_rfl
theorem run_neq82_n (w : World) : (binOp .neq 106 vN .nilFunc).run Tryd.prog w = .ok (.bool false) w := by kernel_rfl

/-- How many things a slice has. -/
def lenOf : Value → Nat
  | .slice _ n _ => n
  | _ => 0



end Go.Proofs.YtjmbfjaahadbhaaDoor
namespace Go.Proofs.YtjmbfjaahadbhaaDoor
open Go.RowKit (wrap32 wrap64)


abbrev pp (b o : Nat) : Value := .pointer (some ⟨b, o, none⟩)

theorem op_nil {ρ : Operand → Value} {o : Oper} {x : Operand} (h : o.op = .nilCheck x) {b q : Nat} (hv : ρ x = pp b q) (w : World) : (execOp ρ o).run Tryd.prog w = .ok (.value (pp b q)) w := by
  unfold execOp
  rw [h]
  simp only [hv]
  rfl

theorem op_fld84 {ρ : Operand → Value} {o : Oper} {x : Operand} {i : Nat} (h : o.op = .fieldAddr 108 x i) (hi : i < 6) {b q : Nat} (hv : ρ x = pp b q) (w : World) : (execOp ρ o).run Tryd.prog w = .ok (.value (pp b (q + i))) w := by
  unfold execOp
  rw [h]
  simp only [hv]
  rcases (show i = 0 ∨ i = 1 ∨ i = 2 ∨ i = 3 ∨ i = 4 ∨ i = 5 by omega) with rfl | rfl | rfl | rfl | rfl | rfl <;> kernel_rfl

theorem op_fld71 {ρ : Operand → Value} {o : Oper} {x : Operand} {i : Nat} (h : o.op = .fieldAddr 27 x i) (hi : i < 7) {b q : Nat} (hv : ρ x = pp b q) (w : World) : (execOp ρ o).run Tryd.prog w = .ok (.value (pp b (q + i))) w := by
  unfold execOp
  rw [h]
  simp only [hv]
  rcases (show i = 0 ∨ i = 1 ∨ i = 2 ∨ i = 3 ∨ i = 4 ∨ i = 5 ∨ i = 6 by omega) with rfl | rfl | rfl | rfl | rfl | rfl | rfl <;> kernel_rfl

theorem op_load {ρ : Operand → Value} {o : Oper} {x : Operand} {ty : TypeId} (h : o.op = .load ty x) (ht : ty = 3 ∨ ty = 25 ∨ ty = 105 ∨ ty = 106) {b q : Nat} (hv : ρ x = pp b q) {w : World} {v : Value} (hc : w.cell? ⟨b, q, none⟩ = some v) : (execOp ρ o).run Tryd.prog w = .ok (.value v) w := by
  unfold execOp
  rw [h]
  simp only [hv]
  rcases ht with rfl | rfl | rfl | rfl <;> simp [go_sem, hc]

theorem op_neq {ρ : Operand → Value} {o : Oper} {x : Operand} {ty ty' : TypeId} (h : o.op = .binOp .neq ty x (.const .nilFunc) ty') (hρ : ρ (.const .nilFunc) = .nilFunc) (ht : ty = 105 ∨ ty = 106) (w : World) : (ρ x = vN → (execOp ρ o).run Tryd.prog w = .ok (.value (.bool false)) w) ∧ (∀ f, ρ x = vF f → (execOp ρ o).run Tryd.prog w = .ok (.value (.bool true)) w) := by
  refine ⟨fun hv => ?_, fun f hv => ?_⟩
  · unfold execOp
    rw [h]
    simp only [hv, hρ]
    rcases ht with rfl | rfl <;> kernel_rfl
  · unfold execOp
    rw [h]
    simp only [hv, hρ]
    rcases ht with rfl | rfl <;> kernel_rfl

set_option maxRecDepth 100000 in
theorem op_eql {ρ : Operand → Value} {o : Oper} {x : Operand} {ty' : TypeId} (h : o.op = .binOp .eql 3 x (.const (vI 0)) ty') (hρ : ρ (.const (vI 0)) = vI 0) (w : World) {z : Int} (hv : ρ x = vI z) : (execOp ρ o).run Tryd.prog w = .ok (.value (.bool (z == 0))) w := by
  unfold execOp
  rw [h]
  simp only [hv, hρ]
  simp [go_sem]

/-- One operation of a walk that only reads in block b: what is read there is 'mem', what is compared with 0 is named by its slot. -/
def ev2 (b : Nat) (mem : Nat → Option Value) (zz : Nat → Int) (tb : Nat → Bool) (ops : Array Oper) (o : Oper) (a : Act) : Option (Act × List (Value × Value)) :=
  bif Region.wanted o (yielded ops a.tmps) then
    match o.op with
    | .move x => some (a.put o.dst (a.eval x), [])
    | .assign x => some (a.put o.dst (a.eval x), [])
    | .pick c x y =>
      match a.eval c with
      | .bool true => some (a.put o.dst (a.eval x), [])
      | .bool false => some (a.put o.dst (a.eval y), [])
      | _ => none
    | .nilCheck x =>
      match a.eval x with
      | .pointer (some ⟨k, q, none⟩) => some (a.put o.dst (pp k q), [])
      | _ => none
    | .fieldAddr ty x i =>
      match a.eval x with
      | .pointer (some ⟨k, q, none⟩) =>
        bif (ty == 108 && Nat.blt i 6) || (ty == 27 && Nat.blt i 7) then some (a.put o.dst (pp k (q + i)), []) else none
      | _ => none
    | .load ty x =>
      match a.eval x with
      | .pointer (some ⟨k, q, none⟩) =>
        bif ty == 3 || ty == 25 || ty == 105 || ty == 106 then
          match mem q with
          | some v => some (a.put o.dst v, [(pp k q, pp b q)])
          | none => none
        else none
      | _ => none
    | .binOp .neq ty x (.const .nilFunc) _ =>
      bif ty == 105 || ty == 106 then
        match a.eval x with
        | .nilFunc => some (a.put o.dst (.bool false), [])
        | .func (.func _) first cap => bif first.toList.isEmpty && cap.toList.isEmpty then some (a.put o.dst (.bool true), []) else none
        | _ => none
      else none
    | .binOp .eql ty x (.const (.int .i64 0)) _ =>
      bif ty == 3 then
        match o.dst with
        | some d => some (a.put o.dst (.bool (tb d)), [(a.eval x, vI (zz d))])
        | none => none
      else none
    | .call c =>
      match c.callee, c.args.toList, c.argTypes.toList with
      | .builtin .len, [x], [ty] =>
        bif ty == 25 then
          match a.eval x with
          | .slice _ n _ => some (a.put o.dst (vI n), [])
          | _ => none
        else none
      | _, _, _ => none
    | _ => none
  else some (a.put o.dst undef, [])

set_option maxRecDepth 100000 in
theorem op_len {ρ : Operand → Value} {o : Oper} {x : Operand} (h : o.op = .call { callee := .builtin .len, args := #[x], argTypes := #[25] }) (w : World) {a : Option Addr} {n c : Nat} (hv : ρ x = .slice a n c) : (execOp ρ o).run Tryd.prog w = .ok (.value (vI n)) w := by
  obtain ⟨dst, op, ty, pos, after, guard⟩ := o
  simp only at h
  subst h
  show (builtin .len #[25] ty ((#[x] : Array Operand).map fun | .const _ => true | _ => false) ((#[x] : Array Operand).map ρ)).run Tryd.prog w = .ok (.value (vI n)) w
  have e : (#[x] : Array Operand).map ρ = #[ρ x] := by simp
  simp only [e, hv]
  simp [go_sem]

def ev2L (b : Nat) (mem : Nat → Option Value) (zz : Nat → Int) (tb : Nat → Bool) (ops : Array Oper) : List Oper → Act → Option (Act × List (Value × Value))
  | [], a => some (a, [])
  | o :: rest, a => match ev2 b mem zz tb ops o a with
    | some (a', l) => match ev2L b mem zz tb ops rest a' with
      | some (a2, l2) => some (a2, l ++ l2)
      | none => none
    | none => none

theorem wp_value {o : Oper} {a : Act} {w : World} {K : Act → World → Prop} {Q : Exit → Act → World → Prop} {v : Value} (h : (execOp a.eval o).run Tryd.prog w = .ok (.value v) w) (hk : K (a.put o.dst v) w) : o.wp Tryd.prog a w K Q := by
  unfold Oper.wp
  rw [h]
  exact hk

theorem ev2_sound {b : Nat} {mem : Nat → Option Value} {zz : Nat → Int} {tb : Nat → Bool} {ops : Array Oper} {o : Oper} {a a' : Act} {l : List (Value × Value)} {w : World} {rest : List Oper} {Q : Exit → Act → World → Prop}
    (hm : ∀ q v, mem q = some v → w.cell? ⟨b, q, none⟩ = some v) (hz : ∀ d, (zz d == 0) = tb d) (h : ev2 b mem zz tb ops o a = some (a', l)) (hl : ∀ p ∈ l, p.1 = p.2) (ih : wpList Tryd.prog ops Q rest a' w) : wpList Tryd.prog ops Q (o :: rest) a w := by
  unfold ev2 at h
  cases hw : Region.wanted o (yielded ops a.tmps) with
  | false =>
    rw [hw] at h
    cases h
    exact wpList_skip hw ih
  | true =>
    rw [hw] at h
    refine BigFrame.wpList_want hw (fun K hK => ?_)
    simp only [cond_true] at h
    split at h
    · rename_i x hx
      cases h
      exact BigFrame.wp_move x hx (hK _ _ ih)
    · rename_i x hx
      cases h
      exact BigFrame.wp_assign x hx (hK _ _ ih)
    · rename_i c x y hx
      unfold Oper.wp execOp
      rw [hx]
      split at h
      · rename_i hc
        cases h
        simp only [hc]
        exact hK _ _ ih
      · rename_i hc
        cases h
        simp only [hc]
        exact hK _ _ ih
      · cases h
    · rename_i x hx
      split at h
      · rename_i k q hv
        cases h
        exact wp_value (op_nil hx hv w) (hK _ _ ih)
      · cases h
    · rename_i ty x i hx
      split at h
      · rename_i k q hv
        cases hc : ((ty == 108 && Nat.blt i 6) || (ty == 27 && Nat.blt i 7)) with
        | false => rw [hc] at h; cases h
        | true =>
          rw [hc] at h
          cases h
          simp only [Bool.or_eq_true, Bool.and_eq_true, beq_iff_eq, Nat.blt_eq] at hc
          rcases hc with ⟨rfl, hi⟩ | ⟨rfl, hi⟩
          · exact wp_value (op_fld84 hx hi hv w) (hK _ _ ih)
          · exact wp_value (op_fld71 hx hi hv w) (hK _ _ ih)
      · cases h
    · rename_i ty x hx
      split at h
      · rename_i k q hv
        cases hc : (ty == 3 || ty == 25 || ty == 105 || ty == 106) with
        | false => rw [hc] at h; cases h
        | true =>
          rw [hc] at h
          simp only [cond_true] at h
          simp only [Bool.or_eq_true, beq_iff_eq] at hc
          split at h
          · rename_i u hu
            cases h
            have hp : pp k q = pp b q := hl _ List.mem_cons_self
            have hk : k = b := by cases hp; rfl
            subst hk
            exact wp_value (op_load hx (by rcases hc with ((h | h) | h) | h <;> simp [h]) hv (hm q u hu)) (hK _ _ ih)
          · cases h
      · cases h
    · rename_i ty x ty' hx
      cases hc : (ty == 105 || ty == 106) with
      | false => rw [hc] at h; cases h
      | true =>
        rw [hc] at h
        simp only [cond_true] at h
        simp only [Bool.or_eq_true, beq_iff_eq] at hc
        have hq := op_neq (ρ := a.eval) hx rfl hc w
        split at h
        · rename_i hv
          cases h
          exact wp_value (hq.1 hv) (hK _ _ ih)
        · rename_i f first cap hv
          cases hf : (first.toList.isEmpty && cap.toList.isEmpty) with
          | false => rw [hf] at h; cases h
          | true =>
            rw [hf] at h
            cases h
            simp only [Bool.and_eq_true, List.isEmpty_iff] at hf
            have e1 : first = #[] := by cases first; simp_all
            have e2 : cap = #[] := by cases cap; simp_all
            subst e1; subst e2
            exact wp_value (hq.2 f hv) (hK _ _ ih)
        · cases h
    · rename_i ty x ty' hx
      cases hc : (ty == 3) with
      | false => rw [hc] at h; cases h
      | true =>
        rw [hc] at h
        simp only [cond_true] at h
        simp only [beq_iff_eq] at hc
        subst hc
        split at h
        · rename_i d hd
          cases h
          have hp : a.eval x = vI (zz d) := hl _ List.mem_cons_self
          have := op_eql (ρ := a.eval) hx rfl w hp
          rw [hz d] at this
          exact wp_value this (hK _ _ ih)
        · cases h
    · rename_i c hx
      split at h
      · rename_i x ty h1 h2 h3
        cases hc : (ty == 25) with
        | false => rw [hc] at h; cases h
        | true =>
          rw [hc] at h
          simp only [cond_true] at h
          simp only [beq_iff_eq] at hc
          subst hc
          obtain ⟨callee, args, argTypes⟩ := c
          simp only at h1 h2 h3
          subst h1
          have e2 : args = #[x] := by cases args; simp_all
          have e3 : argTypes = #[25] := by cases argTypes; simp_all
          subst e2; subst e3
          split at h
          · rename_i aa n c hv
            cases h
            exact wp_value (op_len hx w hv) (hK _ _ ih)
          · cases h
      · cases h
    · cases h

theorem ev2L_sound {b : Nat} {mem : Nat → Option Value} {zz : Nat → Int} {tb : Nat → Bool} {ops : Array Oper} {w : World} {Q : Exit → Act → World → Prop} (hm : ∀ q v, mem q = some v → w.cell? ⟨b, q, none⟩ = some v) (hz : ∀ d, (zz d == 0) = tb d) :
    ∀ {rest : List Oper} {a a' : Act} {l : List (Value × Value)}, ev2L b mem zz tb ops rest a = some (a', l) → (∀ p ∈ l, p.1 = p.2) → Q .normal a' w → wpList Tryd.prog ops Q rest a w
  | [], a, a', l, h, _, hq => by
    cases h
    exact hq
  | o :: rest, a, a', l, h, hl, hq => by
    unfold ev2L at h
    split at h
    · rename_i a1 l1 h1
      split at h
      · rename_i a2 l2 h2
        cases h
        exact ev2_sound hm hz h1 (fun p hp => hl p (List.mem_append_left _ hp)) (ev2L_sound hm hz h2 (fun p hp => hl p (List.mem_append_right _ hp)) hq)
      · cases h
    · cases h

theorem wpList_names {b : Nat} {mem : Nat → Option Value} {zz : Nat → Int} {tb : Nat → Bool} {ops : Array Oper} {w : World} {Q : Exit → Act → World → Prop} {rest : List Oper} {a : Act} (t : Tmp) (v : Value) (hm : ∀ q v, mem q = some v → w.cell? ⟨b, q, none⟩ = some v) (hz : ∀ d, (zz d == 0) = tb d)
    (h1 : ((ev2L b mem zz tb ops rest a).map fun r => (r.1.tmps.getD t undef, r.1.defers, r.2.map (·.1))) = ((ev2L b mem zz tb ops rest a).map fun r => (v, [], r.2.map (·.2)))) (h2 : (ev2L b mem zz tb ops rest a).isSome = true)
    (hq : ∀ a', a'.tmps.getD t undef = v → a'.defers = [] → Q .normal a' w) : wpList Tryd.prog ops Q rest a w := by
  cases e : ev2L b mem zz tb ops rest a with
  | none => rw [e] at h2; cases h2
  | some r =>
    obtain ⟨a', l⟩ := r
    rw [e] at h1
    simp only [Option.map_some, Option.some.injEq, Prod.mk.injEq] at h1
    refine ev2L_sound hm hz e (fun p hp => ?_) (hq a' h1.1 h1.2.1)
    have key : ∀ (l : List (Value × Value)), l.map (·.1) = l.map (·.2) → ∀ p ∈ l, p.1 = p.2 := fun l => by
      induction l with
      | nil => intro _ p hp; cases hp
      | cons x r ih =>
        intro h p hp
        simp only [List.map_cons, List.cons.injEq] at h
        rcases List.mem_cons.1 hp with rfl | hp
        · exact h.1
        · exact ih h.2 p hp
    exact key l h1.2.2 p hp

def memOf : List (Nat × Value) → Nat → Option Value
  | [], _ => none
  | p :: r, q => bif p.1 == q then some p.2 else memOf r q
theorem memOf_sound {b : Nat} {w : World} : ∀ {l : List (Nat × Value)}, (∀ p ∈ l, w.cell? ⟨b, p.1, none⟩ = some p.2) → ∀ q v, memOf l q = some v → w.cell? ⟨b, q, none⟩ = some v
  | [], _, _, _, h => by cases h
  | p :: r, hl, q, v, h => by
    unfold memOf at h
    cases hc : (p.1 == q) with
    | true =>
      rw [hc] at h
      cases h
      rw [← beq_iff_eq.1 hc]
      exact hl p List.mem_cons_self
    | false =>
      rw [hc] at h
      exact memOf_sound (fun p hp => hl p (List.mem_cons_of_mem _ hp)) q v h
def zzOf : List (Nat × Int × Bool) → Nat → Int
  | [], _ => 0
  | p :: r, q => bif p.1 == q then p.2.1 else zzOf r q
def tbOf : List (Nat × Int × Bool) → Nat → Bool
  | [], _ => true
  | p :: r, q => bif p.1 == q then p.2.2 else tbOf r q
theorem zzOf_sound : ∀ {l : List (Nat × Int × Bool)}, (∀ p ∈ l, (p.2.1 == 0) = p.2.2) → ∀ d, (zzOf l d == 0) = tbOf l d
  | [], _, _ => rfl
  | p :: r, hl, d => by
    unfold zzOf tbOf
    cases hc : (p.1 == d) with
    | true => exact hl p List.mem_cons_self
    | false => exact zzOf_sound (fun p hp => hl p (List.mem_cons_of_mem _ hp)) d

end Go.Proofs.YtjmbfjaahadbhaaDoor
