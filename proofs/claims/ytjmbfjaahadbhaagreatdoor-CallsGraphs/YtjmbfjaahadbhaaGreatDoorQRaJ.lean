import Derived.Test.YtjmbfjaahadbhaaGreatDoorQB5J
import Derived.BigQuiet
import Derived.Laws.OwnMore
import Derived.Laws.MakeOwn
import Derived.StillTailTactics
import Derived.Deep.RegionLaw
set_option linter.unusedVariables false
set_option linter.unusedSimpArgs false
namespace Go.Proofs.YtjmbfjaahadbhaaGreatDoor
open Go.RowKit (wrap32 wrap64)
theorem heap_new0 (w : World) (o : Obj) : (w.alloc o).heap[w.heap.size]? = some o := (MapKept.heap_alloc w o).1
theorem cell_of0 {w : World} {k : Nat} {cs : Array Value} {t : TypeId} (h : w.heap[k]? = some (.cells cs t)) (o : Nat) : w.cell? ⟨k, o, none⟩ = cs[o]? := by
  unfold World.cell?; rw [h]; simp
theorem heap_lt0 {w : World} {k : Nat} {o : Obj} (h : w.heap[k]? = some o) : k < w.heap.size := (Array.getElem?_eq_some_iff.1 h).1

theorem own_slice {w : World} {B e sz n : Nat} {v : Value} {xs : List Value} (h : w.ownsRow B e sz v n xs) : ∃ a c, v = .slice a n c := by
  rcases h.2 with ⟨e, e2⟩ | ⟨g, cap, cur, e, -⟩
  · exact ⟨none, 0, by rw [e, e2]⟩
  · exact ⟨_, _, e⟩
theorem keepA {W : World} {k : Nat} {o' : Obj} (h : W.heap[k]? = some o') (o : Obj) : (W.alloc o).heap[k]? = some o' := by rw [Go.RowKit.Below.heap_alloc _ _ _ (heap_lt h)]; exact h
theorem keepF {W W' : World} {k : Nat} {o' : Obj} (h : W.heap[k]? = some o') (f : Fr (fun _ => False) W W') : W'.heap[k]? = some o' := (f.block k (heap_lt h) (fun e => e)).trans h

theorem addr_plus (b off i : Nat) : (⟨b, off, none⟩ : Addr).add i = ⟨b, off + i, none⟩ := by unfold Addr.add; split <;> simp_all
/-- An element of a row of one's own is written over. -/
theorem row_set {w : World} {B e sz n g cap j : Nat} {xs : List Value} (h : w.ownsRow B e sz (.slice (some ⟨g, 0, none⟩) n cap) n xs) (u : Value) :
    (w.setCell ⟨g, j, none⟩ u).ownsRow B e sz (.slice (some ⟨g, 0, none⟩) n cap) n (xs.set j u) ∧ w.frozen? ⟨g, j, none⟩ = false := by
  obtain ⟨h0, h1⟩ := h
  rcases h1 with ⟨e1, -⟩ | ⟨g', cap', cur, e1, k1, k2, k3, k4, k5, k6⟩
  · cases e1
  · cases e1
    refine ⟨⟨by rw [List.length_set]; exact h0, Or.inr ⟨g, cap, cur.setIfInBounds j u, rfl, k1, set_of k2 j u, k3, k4, by simpa using k5, ?_⟩⟩, frozen_of k2 j⟩
    rw [← k6, Array.toList_setIfInBounds, List.take_set]
/-- Nothing is appended. -/
theorem run_append_none0 {P : Program} {w : World} (base : Nat) (t ty e : TypeId) (i : TypeInfo) (size : Nat) (ht : P.underlying t = some (.slice e)) (hi : P.info? e = some i)
    (v : Value) (n : Nat) (xs : List Value) (hown : w.ownsRow base e size v n xs) (ad : Addr) (c : Nat) :
    (Builtin.append_ #[t, t] ty #[v, .slice (some ad) 0 c]).run P w = .ok v w := by
  rcases hown.2 with ⟨rfl, rfl⟩ | ⟨g, cap, cur, rfl, _, _, hnc, _⟩
  · simp [Builtin.append_, run_underlying ht, sizeOf, typeInfo, hi, Builtin.lenOf, Builtin.firstCells, loadCells, loadCellsFrom]
  · simp [Builtin.append_, run_underlying ht, sizeOf, typeInfo, hi, Builtin.lenOf, Builtin.firstCells, hnc, storeCells, loadCells, loadCellsFrom]
theorem wpList_append_none0 {P : Program} {w : World} {ops : Array Oper} {rest : List Oper} {o : Oper} {a : Act} {Q : Exit → Act → World → Prop} (hgd : o.guard = none) (s x : Operand) (t : TypeId)
    (ho : o.op = .call { callee := .builtin .append, args := #[s, x], argTypes := #[t, t] })
    (base : Nat) (e : TypeId) (i : TypeInfo) (size : Nat) (ht : P.underlying t = some (.slice e)) (hi : P.info? e = some i)
    (v : Value) (n : Nat) (xs : List Value) (hs : a.eval s = v) (hown : w.ownsRow base e size v n xs) (ad : Addr) (c : Nat) (hx : a.eval x = .slice (some ad) 0 c)
    (h : wpList P ops Q rest (a.put o.dst v) w) : wpList P ops Q (o :: rest) a w := by
  refine wpList_plain hgd fun K hK => ?_
  have hrun := run_append_none0 (P := P) (w := w) base t o.type e i size ht hi v n xs hown ad c
  unfold Oper.wp
  simp [execOp, ho, resolve, invoke, builtin, hs, hx, hrun, Result.andThen]
  exact hK _ _ h


namespace Wg
/-! ### rows of cells -/
def upd {α : Type} (f : Nat → α) (i : Nat) (x : α) : Nat → α := fun j => if j = i then x else f j
theorem upd_same {α : Type} (f : Nat → α) (i : Nat) (x : α) : upd f i x i = x := by simp [upd]
theorem upd_ne {α : Type} (f : Nat → α) {i j : Nat} (x : α) (h : j ≠ i) : upd f i x j = f j := by simp [upd, h]
theorem upd_map {α β : Type} (g : α → β) (f : Nat → α) (i : Nat) (x : α) : (fun j => g (upd f i x j)) = upd (fun j => g (f j)) i (g x) := by
  funext j; unfold upd; split <;> rfl

/-- A block of m cells of a type. -/
def Row (w : World) (t : TypeId) (b m : Nat) (g : Nat → Value) : Prop := ∃ cs : Array Value, w.heap[b]? = some (.cells cs t) ∧ cs.size = m ∧ ∀ i, i < m → cs[i]? = some (g i)
theorem Row.lt {w : World} {t : TypeId} {b m : Nat} {g : Nat → Value} (h : Row w t b m g) : b < w.heap.size := by obtain ⟨cs, h, -⟩ := h; exact heap_lt h
theorem Row.cell {w : World} {t : TypeId} {b m : Nat} {g : Nat → Value} (h : Row w t b m g) {i : Nat} (hi : i < m) : w.cell? ⟨b, i, none⟩ = some (g i) := by
  obtain ⟨cs, h, hs, hc⟩ := h; rw [cell_of h]; exact hc i hi
theorem Row.frozen {w : World} {t : TypeId} {b m : Nat} {g : Nat → Value} (h : Row w t b m g) (i : Nat) : w.frozen? ⟨b, i, none⟩ = false := by
  obtain ⟨cs, h, hs, hc⟩ := h; exact frozen_of h i
theorem Row.fr {S : Nat → Prop} {w w' : World} {t : TypeId} {b m : Nat} {g : Nat → Value} (h : Row w t b m g) (f : Fr S w w') (hS : ¬ S b) : Row w' t b m g := by
  have hl := h.lt
  obtain ⟨cs, h, hs, hc⟩ := h; exact ⟨cs, (f.block b hl hS).trans h, hs, hc⟩
theorem Row.set {w : World} {t : TypeId} {b m : Nat} {g : Nat → Value} (h : Row w t b m g) (i : Nat) (v : Value) : Row (w.setCell ⟨b, i, none⟩ v) t b m (upd g i v) := by
  obtain ⟨cs, h, hs, hc⟩ := h
  refine ⟨cs.setIfInBounds i v, set_of h i v, by simpa using hs, fun j hj => ?_⟩
  rw [Array.getElem?_setIfInBounds]
  by_cases e : i = j
  · subst e; simp [upd, hs, hj]
  · rw [if_neg e, hc j hj, upd_ne _ _ (fun x => e x.symm)]
theorem Row.congr {w : World} {t : TypeId} {b m : Nat} {g g' : Nat → Value} (h : Row w t b m g) (e : ∀ i, i < m → g i = g' i) : Row w t b m g' := by
  obtain ⟨cs, h, hs, hc⟩ := h
  exact ⟨cs, h, hs, fun i hi => (hc i hi).trans (by rw [e i hi])⟩
theorem Row.setI {w : World} {t : TypeId} {b m : Nat} {f : Nat → Int} (h : Row w t b m (fun i => vI (f i))) (i : Nat) (x : Int) : Row (w.setCell ⟨b, i, none⟩ (vI x)) t b m (fun j => vI (upd f i x j)) :=
  (h.set i (vI x)).congr fun j _ => by unfold upd; split <;> rfl
theorem Row.setB {w : World} {t : TypeId} {b m : Nat} {f : Nat → Bool} (h : Row w t b m (fun i => .bool (f i))) (i : Nat) (x : Bool) : Row (w.setCell ⟨b, i, none⟩ (.bool x)) t b m (fun j => .bool (upd f i x j)) :=
  (h.set i (.bool x)).congr fun j _ => by unfold upd; split <;> rfl
theorem Row.made (w : World) (t : TypeId) (m : Nat) (v : Value) : Row (w.alloc (.cells (Array.replicate m v) t)) t w.heap.size m (fun _ => v) :=
  ⟨_, heap_new w _, by simp, fun i hi => by simp [Array.getElem?_replicate, hi]⟩


end Wg

/-! ### the search through the functions -/
/-- A list of one's own, cut at its end. -/
theorem iown_cut {w : World} {B g n c : Nat} {l : List Int} (h : IOwn w B (.slice (some ⟨g, 0, none⟩) n c) l) {m : Nat} (hm : m ≤ n) (hn : n = l.length) : IOwn w B (.slice (some ⟨g, 0, none⟩) m c) (l.take m) := by
  rcases h.2 with ⟨e, -⟩ | ⟨g', cap', cur, e, h1, h2, h3, h4, h5, h6⟩
  · cases e
  · injection e with e1 e2 e3
    injection e1 with e1
    injection e1 with e1
    subst e1
    subst e3
    have hl : (l.take m).length = m := by rw [List.length_take]; omega
    refine ⟨by simp, Or.inr ⟨g, c, cur, by rw [hl], h1, h2, by omega, h4, h5, ?_⟩⟩
    rw [hl, Nat.mul_one]
    rw [Nat.mul_one] at h6
    have k := congrArg (List.take m) h6
    rw [List.take_take, Nat.min_eq_left (by omega)] at k
    rw [k, List.map_take]
/-- The search as it stands. -/
structure Sc (w : World) (B b go gm gl gn N : Nat) (clv pv ov : Value) (of met low nxt : Nat → Int) (count steps : Nat) (path opn : List Int) : Prop where
  blk : w.heap[b]? = some (.cells #[clv, .slice (some ⟨go, 0, none⟩) N N, vI (count : Int), .slice (some ⟨gm, 0, none⟩) N N, .slice (some ⟨gl, 0, none⟩) N N, .slice (some ⟨gn, 0, none⟩) N N, pv, ov, vI (steps : Int)] 72)
  rof : Wg.Row w 3 go N (fun i => vI (of i))
  rme : Wg.Row w 3 gm N (fun i => vI (met i))
  rlo : Wg.Row w 3 gl N (fun i => vI (low i))
  rnx : Wg.Row w 3 gn N (fun i => vI (nxt i))
  rp : IOwn w B pv path
  ro : IOwn w B ov opn
  lt : b < B ∧ go < B ∧ gm < B ∧ gl < B ∧ gn < B
  ne : go ≠ gm ∧ go ≠ gl ∧ go ≠ gn ∧ gm ≠ gl ∧ gm ≠ gn ∧ gl ≠ gn
  ap : ∀ k, pv.ownBlock = some k → ov.ownBlock ≠ some k
section
variable {w w' : World} {B b go gm gl gn N : Nat} {clv pv ov : Value} {of met low nxt : Nat → Int} {count steps : Nat} {path opn : List Int}
theorem Sc.stay (h : Sc w B b go gm gl gn N clv pv ov of met low nxt count steps path opn) (f : Fr (fun _ => False) w w') : Sc w' B b go gm gl gn N clv pv ov of met low nxt count steps path opn :=
  ⟨keepF h.blk f, h.rof.fr f (fun e => e), h.rme.fr f (fun e => e), h.rlo.fr f (fun e => e), h.rnx.fr f (fun e => e), h.rp.fr f (fun _ _ e => e), h.ro.fr f (fun _ _ e => e), h.lt, h.ne, h.ap⟩
theorem row3_ne {w : World} {b g N : Nat} {cs : Array Value} {f : Nat → Value} (h : w.heap[b]? = some (.cells cs 72)) (k : Wg.Row w 3 g N f) : g ≠ b := fun e => by
  subst e
  obtain ⟨ds, h1, -⟩ := k
  rw [h1] at h
  injection h with h
  injection h with _ h
  cases h
/-- A function's component is told. -/
theorem Sc.setOf (h : Sc w B b go gm gl gn N clv pv ov of met low nxt count steps path opn) (i : Nat) (x : Int) : Sc (w.setCell ⟨go, i, none⟩ (vI x)) B b go gm gl gn N clv pv ov (Wg.upd of i x) met low nxt count steps path opn := by
  have f : Fr (fun j => j = go) w (w.setCell ⟨go, i, none⟩ (vI x)) := setCell_fr w go i _
  obtain ⟨n1, n2, n3, n4, n5, n6⟩ := h.ne
  obtain ⟨l0, l1, l2, l3, l4⟩ := h.lt
  exact ⟨(f.block b (heap_lt0 h.blk) (fun e => row3_ne h.blk h.rof e.symm)).trans h.blk, h.rof.setI i x, h.rme.fr f (fun e => n1 e.symm), h.rlo.fr f (fun e => n2 e.symm), h.rnx.fr f (fun e => n3 e.symm), h.rp.fr f (fun k e e2 => by have := (h.rp.ge k e).1; omega), h.ro.fr f (fun k e e2 => by have := (h.ro.ge k e).1; omega), h.lt, h.ne, h.ap⟩
/-- The list of those that are open is cut. -/
theorem Sc.setOpen (h : Sc w B b go gm gl gn N clv pv ov of met low nxt count steps path opn) {ov' : Value} {opn' : List Int} (ho : IOwn w B ov' opn') (ha : ∀ k, ov'.ownBlock = some k → ov.ownBlock = some k) : Sc (w.setCell ⟨b, 7, none⟩ ov') B b go gm gl gn N clv pv ov' of met low nxt count steps path opn' := by
  have f : Fr (fun j => j = b) w (w.setCell ⟨b, 7, none⟩ ov') := setCell_fr w b 7 _
  obtain ⟨l0, l1, l2, l3, l4⟩ := h.lt
  exact ⟨set_of h.blk 7 _, h.rof.fr f (row3_ne h.blk h.rof), h.rme.fr f (row3_ne h.blk h.rme), h.rlo.fr f (row3_ne h.blk h.rlo), h.rnx.fr f (row3_ne h.blk h.rnx), h.rp.fr f (fun k e e2 => by have := (h.rp.ge k e).1; omega), ho.fr f (fun k e e2 => by have := (ho.ge k e).1; omega), h.lt, h.ne, fun k e e2 => h.ap k e (ha k e2)⟩
/-- One component more. -/
theorem Sc.setCount (h : Sc w B b go gm gl gn N clv pv ov of met low nxt count steps path opn) : Sc (w.setCell ⟨b, 2, none⟩ (vI ((count + 1 : Nat) : Int))) B b go gm gl gn N clv pv ov of met low nxt (count + 1) steps path opn := by
  have f : Fr (fun j => j = b) w (w.setCell ⟨b, 2, none⟩ (vI ((count + 1 : Nat) : Int))) := setCell_fr w b 2 _
  obtain ⟨l0, l1, l2, l3, l4⟩ := h.lt
  exact ⟨set_of h.blk 2 _, h.rof.fr f (row3_ne h.blk h.rof), h.rme.fr f (row3_ne h.blk h.rme), h.rlo.fr f (row3_ne h.blk h.rlo), h.rnx.fr f (row3_ne h.blk h.rnx), h.rp.fr f (fun k e e2 => by have := (h.rp.ge k e).1; omega), h.ro.fr f (fun k e e2 => by have := (h.ro.ge k e).1; omega), h.lt, h.ne, h.ap⟩
end

/-- Of whom the component is told when all from place r on are. -/
def ofX (of : Nat → Int) (l : List Int) (count : Nat) (r : Nat) (i : Nat) : Int := if (i : Int) ∈ l.drop r then (count : Int) else of i
theorem ofX_step (of : Nat → Int) (l : List Int) (count r x : Nat) (hr : r < l.length) (hx : l[r] = (x : Int)) : Wg.upd (ofX of l count (r + 1)) x (count : Int) = ofX of l count r := by
  funext i
  unfold ofX
  rw [List.drop_eq_getElem_cons hr, hx]
  by_cases e : i = x
  · subst e
    rw [Wg.upd_same]
    simp
  · rw [Wg.upd_ne _ _ e]
    have e2 : ¬ ((i : Int) = x) := by omega
    simp [e2]
/-- What tell leaves. -/
def TlE (B b go gm gl gn N : Nat) (clv pv : Value) (of met low nxt : Nat → Int) (count steps : Nat) (path l : List Int) (p : Nat) (ov : Value) (w : World) (e : Ending) (w' : World) : Prop :=
  e = .returned (.tuple #[]) ∧ (∃ ov', Sc w' B b go gm gl gn N clv pv ov' (ofX of l count p) met low nxt (count + 1) steps path (l.take p) ∧ ∀ k, ov'.ownBlock = some k → ov.ownBlock = some k) ∧ Fr (fun k => k = b ∨ k = go) w w'

set_option maxRecDepth 100000 in
set_option maxHeartbeats 4000000 in
theorem tell_any {B b go gm gl gn N : Nat} {clv pv : Value} {of met low nxt : Nat → Int} {count steps g c : Nat} {path l : List Int} (p f : Nat) (w : World) (h : Sc w B b go gm gl gn N clv pv (.slice (some ⟨g, 0, none⟩) l.length c) of met low nxt count steps path l) (hp : p < l.length) (hf : l[p] = (f : Int)) (hfN : f < N) (hnd : l.Nodup) (hin : ∀ x ∈ l, 0 ≤ x ∧ x < (N : Int)) (hneg : of f < 0) (hc : count ≤ 1000000) (hN : N ≤ 1000000) (hl : l.length ≤ 1000000) :
    Calls Tryz.prog 93 #[.pointer (some ⟨b, 0, none⟩), vI (f : Int)] w (TlE B b go gm gl gn N clv pv of met low nxt count steps path l p (.slice (some ⟨g, 0, none⟩) l.length c) w) := by
  have HIN : Hd (∀ x ∈ l, 0 ≤ x ∧ x < (N : Int)) := hin
  have HND : Hd (∀ r, p < r → (f : Int) ∉ l.drop r) := fun r hr hm => by
    obtain ⟨j, hj, e⟩ := List.getElem_of_mem hm
    rw [List.getElem_drop] at e
    exact (List.pairwise_iff_getElem.1 hnd) p (r + j) hp (by rw [List.length_drop] at hj; omega) (by omega) (hf.trans e.symm)
  have HPD : Hd ((f : Int) ∈ l.drop p) := by unfold Hd; rw [List.drop_eq_getElem_cons hp, hf]; simp
  have HS0 : Hd (Sc w B b go gm gl gn N clv pv (.slice (some ⟨g, 0, none⟩) l.length c) (ofX of l count l.length) met low nxt count steps path (l.take l.length)) := by
    have e1 : ofX of l count l.length = of := by funext i; unfold ofX; simp
    rw [e1, List.take_length]
    exact h
  have HNG : Hd (of f < 0) := hneg
  have hf0 : (0 : Int) ≤ f := by omega
  have hf1 : (f : Int) < N := by omega
  clear h hin hnd hneg hf
  go_enter Tryz.func93, Tryz.ntmps93
  go_wp2_with fail
  go_loopg [] l.length (fun gg wr => ∃ (r : Nat), Hd (r = gg) ∧ p ≤ r ∧ r ≤ l.length ∧ Hd (Sc wr B b go gm gl gn N clv pv (.slice (some ⟨g, 0, none⟩) r c) (ofX of l count r) met low nxt count steps path (l.take r)) ∧ Hd (Fr (fun k => k = b ∨ k = go) w wr))
  case atStart => exact ⟨l.length, rfl, by omega, Nat.le_refl _, HS0.out, Fr.refl _ _⟩
  case round =>
    clear HS0
    obtain ⟨r, HRG, hpr, hrl, HS, HF⟩ := hrel
    have c1 : wr.cell? ⟨b, 1, none⟩ = some (.slice (some ⟨go, 0, none⟩) N N) := by rw [cell_of0 HS.out.blk]; rfl
    have c2 : wr.cell? ⟨b, 2, none⟩ = some (vI (count : Int)) := by rw [cell_of0 HS.out.blk]; rfl
    have c7 : wr.cell? ⟨b, 7, none⟩ = some (.slice (some ⟨g, 0, none⟩) r c) := by rw [cell_of0 HS.out.blk]; rfl
    have p0 := HS.out.rof.cell hfN
    by_cases hlt : p < r
    · have hneg : ofX of l count r f < 0 := by unfold ofX; rw [if_neg (HND.out r hlt)]; exact HNG.out
      obtain ⟨q, rfl⟩ : ∃ q, r = q + 1 := ⟨r - 1, by omega⟩
      have hql : q < l.length := by omega
      have hx := HIN.out _ (List.getElem_mem hql)
      obtain ⟨x, ex⟩ : ∃ x : Nat, l[q] = (x : Int) := ⟨l[q].toNat, by omega⟩
      rw [ex] at hx
      have hxN : x < N := by omega
      have hx0 : (0 : Int) ≤ x := hx.1
      have hx1 : (x : Int) < N := hx.2
      obtain ⟨-, p1⟩ : g < wr.heap.size ∧ wr.cell? ⟨g, q, none⟩ = some (vI (x : Int)) := by
        obtain ⟨a, cp, e, kk⟩ := HS.out.ro.ia
        obtain ⟨k1, o1, e1, l1, g1⟩ := kk (by intro e; have k9 := congrArg List.length e; rw [List.length_take] at k9; simp only [List.length_nil] at k9; omega)
        have hq2 : q < (l.take (q + 1)).length := by rw [List.length_take]; omega
        have := g1 q hq2
        rw [List.getElem_take, ex] at this
        injection e with e2
        rw [e1] at e2
        injection e2 with e2
        injection e2 with e3 e4
        subst e3
        rw [← e4, Nat.zero_add] at this
        exact ⟨l1, this⟩
      have p2 := HS.out.rof.cell hxN
      have z2 := HS.out.rof.frozen x
      have dn : decide (ofX of l count (q + 1) f < 0) = true := by simp [hneg]
      have j0 : (0 : Int) ≤ ((q + 1 : Nat) : Int) - 1 := by omega
      have j1 : ((q + 1 : Nat) : Int) - 1 < ((q + 1 : Nat) : Int) := by omega
      have hqi : ((q + 1 : Nat) : Int) - 1 = (q : Int) := by omega
      have hq0 : (0 : Int) ≤ q := by omega
      have hq1 : (q : Int) < ((q + 1 : Nat) : Int) := by omega
      have hq2 : (q : Int) < (q : Int) + 1 := by omega
      have HS2 : Hd (Sc (wr.setCell ⟨go, x, none⟩ (vI (count : Int))).drew B b go gm gl gn N clv pv (.slice (some ⟨g, 0, none⟩) (q + 1) c) (ofX of l count q) met low nxt count steps path (l.take (q + 1))) := by
        have k1 := (HS.out.setOf x (count : Int)).stay (Fr.refl _ _).drew
        rw [ofX_step of l count q x hql ex] at k1
        exact k1
      have HF2 : Hd (Fr (fun k => k = b ∨ k = go) w (wr.setCell ⟨go, x, none⟩ (vI (count : Int))).drew) := (HF.out.trans ((setCell_fr wr go x _).mono (fun _ _ e => Or.inr e))).drew
      clear hx ex hql hneg
      go_upto_region 2 with fail
      refine wp_region_still_tail 16 mixed (by kernel_rfl) ?_
      simp only [List.take_succ_cons, List.take_zero, List.drop_succ_cons, List.drop_zero]
      repeat still_step
      refine wpStill_nil ?_
      obtain ⟨w2, hw2⟩ : ∃ w2, w2 = (wr.setCell ⟨go, x, none⟩ (vI (count : Int))).drew := ⟨_, rfl⟩
      have HW2 : Hd (w2 = (wr.setCell ⟨go, x, none⟩ (vI (count : Int))).drew) := hw2
      rw [← hw2] at HS2 HF2
      clear hw2
      go_upto_region 3 with fail
      rw [← HW2.out]
      clear HW2 c1 c2 c7 p0 p1 p2 z2
      have c7 : w2.cell? ⟨b, 7, none⟩ = some (.slice (some ⟨g, 0, none⟩) (q + 1) c) := by rw [cell_of0 HS2.out.blk]; rfl
      have z7 : w2.frozen? ⟨b, 7, none⟩ = false := frozen_of HS2.out.blk 7
      have hcut : IOwn w2 B (.slice (some ⟨g, 0, none⟩) q c) (l.take q) := by
        have k1 := iown_cut HS2.out.ro (m := q) (by omega) (by rw [List.length_take]; omega)
        rw [List.take_take, Nat.min_eq_left (by omega)] at k1
        exact k1
      have hqc : q ≤ c := by
        rcases hcut.2 with ⟨e, -⟩ | ⟨g', cap', cur, e, -, -, k3, -⟩
        · cases e
        · injection e with _ _ e3
          rw [List.length_take] at k3
          omega
      have hqc1 : (q : Int) ≤ c := by omega
      have HS3 : Hd (Sc (w2.setCell ⟨b, 7, none⟩ (.slice (some ⟨g, 0, none⟩) q c)) B b go gm gl gn N clv pv (.slice (some ⟨g, 0, none⟩) q c) (ofX of l count q) met low nxt count steps path (l.take q)) := HS2.out.setOpen hcut (fun k e => e)
      have HF3 : Hd (Fr (fun k => k = b ∨ k = go) w (w2.setCell ⟨b, 7, none⟩ (.slice (some ⟨g, 0, none⟩) q c))) := HF2.out.trans ((setCell_fr w2 b 7 _).mono (fun _ _ e => Or.inl e))
      clear hcut hqc
      go_wp2_with fail
      go_roundg q
      case measure => have := HRG.out; omega
      case rel => exact ⟨q, rfl, by omega, by omega, HS3.out, HF3.out⟩
    · have hrp : r = p := by omega
      subst hrp
      have hnn : ofX of l count r f = count := by unfold ofX; rw [if_pos HPD.out]
      rw [hnn] at p0
      have dn : decide ((count : Int) < 0) = false := by simp
      have z2 : wr.frozen? ⟨b, 2, none⟩ = false := frozen_of HS.out.blk 2
      have HE : Hd (TlE B b go gm gl gn N clv pv of met low nxt count steps path l r (.slice (some ⟨g, 0, none⟩) l.length c) w (.returned (.tuple #[])) (wr.setCell ⟨b, 2, none⟩ (vI ((count + 1 : Nat) : Int)))) := ⟨rfl, ⟨_, HS.out.setCount, fun k e => e⟩, HF.out.trans ((setCell_fr wr b 2 _).mono (fun _ _ e => Or.inl e))⟩
      have ecn : (count : Int) + 1 = ((count + 1 : Nat) : Int) := by omega
      generalize ((count + 1 : Nat) : Int) = cn at *
      clear hnn c7
      go_wp2_with fail
      go_end0
      exact HE.out
end Go.Proofs.YtjmbfjaahadbhaaGreatDoor
namespace Go.Proofs.YtjmbfjaahadbhaaGreatDoor

/-! ### who reaches whom; the search through the functions, in plain lists -/
/-- x reaches y by calls. -/
inductive Rch (cl : Nat → List Nat) : Nat → Nat → Prop
  | refl (x : Nat) : Rch cl x x
  | step {x y z : Nat} : Rch cl x y → z ∈ cl y → Rch cl x z
theorem Rch.trans {cl : Nat → List Nat} {x y z : Nat} (h : Rch cl x y) (k : Rch cl y z) : Rch cl x z := by
  induction k with
  | refl => exact h
  | step _ m ih => exact .step ih m
/-- How many were not met. -/
def unm : Nat → (Nat → Nat) → Nat
  | 0, _ => 0
  | n + 1, met => unm n met + if met n = 0 then 1 else 0
theorem unm_ge {n : Nat} {met : Nat → Nat} {g k : Nat} (h : n ≤ g) : unm n (Wg.upd met g k) = unm n met := by
  induction n with
  | zero => rfl
  | succ n ih =>
    unfold unm
    rw [ih (by omega), Wg.upd_ne _ _ (by omega)]
theorem unm_upd {n : Nat} {met : Nat → Nat} {g k : Nat} (hg : g < n) (h0 : met g = 0) (hk : k ≠ 0) : unm n (Wg.upd met g k) + 1 = unm n met := by
  induction n with
  | zero => omega
  | succ n ih =>
    unfold unm
    by_cases e : g = n
    · subst e
      rw [unm_ge (Nat.le_refl _), Wg.upd_same, if_neg hk, if_pos h0]
    · rw [Wg.upd_ne _ _ (fun e2 => e e2.symm)]
      have := ih (by omega)
      omega
theorem unm_zero (n : Nat) : unm n (fun _ => 0) = n := by
  induction n with
  | zero => rfl
  | succ n ih => unfold unm; rw [ih]; simp
/-- What holds of the search between two steps. -/
structure TI (N : Nat) (cl : Nat → List Nat) (of : Nat → Int) (met low nxt : Nat → Nat) (path opn : List Nat) (count steps : Nat) : Prop where
  st : steps + unm N met = N
  mN : ∀ x, met x ≠ 0 → x < N
  ms : ∀ x, met x ≤ steps
  mi : ∀ x y, met x ≠ 0 → met x = met y → x = y
  nz : ∀ x, met x = 0 → nxt x = 0
  om : ∀ x, x ∈ opn ↔ met x ≠ 0 ∧ of x < 0
  os : opn.Pairwise (fun x y => met x < met y)
  po : ∀ p ∈ path, p ∈ opn
  ps : path.Pairwise (fun x y => met x < met y)
  cm : ∀ x, 0 ≤ of x → met x ≠ 0 ∧ of x < count
  cs : ∀ k : Nat, k < count → ∃ x, of x = k
  nl : ∀ x, nxt x ≤ (cl x).length
  pr : ∀ x i z, i < nxt x → (cl x)[i]? = some z → met z ≠ 0 ∧ (x ∈ opn → z ∈ opn → low x ≤ met z)
  cc : ∀ x, 0 ≤ of x → ∀ z ∈ cl x, 0 ≤ of z ∧ of z ≤ of x
  cr : ∀ x y, 0 ≤ of x → of x = of y → Rch cl x y
  fi : ∀ x ∈ opn, x ∉ path → nxt x = (cl x).length ∧ low x < met x
  lo : ∀ x ∈ opn, low x ≤ met x ∧ ∃ y ∈ opn, met y = low x ∧ Rch cl x y
  pc : ∀ i p q, path[i]? = some p → path[i + 1]? = some q → (cl p)[nxt p]? = some q
  p2 : ∀ p ∈ path, ∀ x ∈ opn, met p ≤ met x → Rch cl p x
  lp : ∀ p ∈ path, ∀ x ∈ opn, x ∉ path → met p < met x → (∀ q ∈ path, met q ≤ met p ∨ met x ≤ met q) → low p ≤ low x ∨ ∃ c, (cl p)[nxt p]? = some c ∧ c ∈ opn ∧ low c ≤ low x
section
variable {N : Nat} {cl : Nat → List Nat} {of : Nat → Int} {met low nxt : Nat → Nat} {path opn r : List Nat} {count steps f g : Nat}
/-- The beginning. -/
theorem TI.begin (N : Nat) (cl : Nat → List Nat) : TI N cl (fun _ => -1) (fun _ => 0) (fun _ => 0) (fun _ => 0) [] [] 0 0 where
  st := by rw [unm_zero]; omega
  mN := fun x h => absurd rfl h
  ms := fun x => Nat.le_refl _
  mi := fun x y h => absurd rfl h
  nz := fun _ _ => rfl
  om := fun x => by simp
  os := .nil
  po := by simp
  ps := .nil
  cm := fun x h => by omega
  cs := fun k h => by omega
  nl := fun x => Nat.zero_le _
  pr := fun x i z h => by omega
  cc := fun x h => by omega
  cr := fun x y h => by omega
  fi := by simp
  lo := by simp
  pc := by simp
  p2 := by simp
  lp := by simp
theorem TI.neg (h : TI N cl of met low nxt path opn count steps) {x : Nat} (hx : met x = 0) : of x < 0 := by
  have := h.cm x
  by_cases e : 0 ≤ of x
  · exact absurd hx (this e).1
  · omega
theorem TI.lt (h : TI N cl of met low nxt path opn count steps) (hg : g < N) (h0 : met g = 0) : steps < N := by
  have := h.st
  have := unm_upd (n := N) (k := 1) hg h0 (by omega)
  omega
/-- A function is met. -/
theorem TI.enter (h : TI N cl of met low nxt path opn count steps) (hg : g < N) (h0 : met g = 0) (hp : ∀ i p, path[i]? = some p → path.length = i + 1 → (cl p)[nxt p]? = some g) :
    TI N cl of (Wg.upd met g (steps + 1)) (Wg.upd low g (steps + 1)) nxt (path ++ [g]) (opn ++ [g]) count (steps + 1) := by
  have hgo : g ∉ opn := fun e => ((h.om g).1 e).1 h0
  have hgp : g ∉ path := fun e => hgo (h.po g e)
  have m1 : ∀ x, x ≠ g → Wg.upd met g (steps + 1) x = met x := fun x e => Wg.upd_ne _ _ e
  have l1 : ∀ x, x ≠ g → Wg.upd low g (steps + 1) x = low x := fun x e => Wg.upd_ne _ _ e
  have mg : Wg.upd met g (steps + 1) g = steps + 1 := Wg.upd_same _ _ _
  have lg : Wg.upd low g (steps + 1) g = steps + 1 := Wg.upd_same _ _ _
  have one : ∀ x ∈ opn, x ≠ g := fun x hx e => hgo (e ▸ hx)
  have pne : ∀ x ∈ path, x ≠ g := fun x hx e => hgp (e ▸ hx)
  refine ⟨?_, ?_, ?_, ?_, ?_, ?_, ?_, ?_, ?_, ?_, h.cs, h.nl, ?_, h.cc, h.cr, ?_, ?_, ?_, ?_, ?_⟩
  · have := h.st
    have := unm_upd (n := N) (k := steps + 1) hg h0 (by omega)
    omega
  · intro x hx
    by_cases e : x = g
    · rw [e]; exact hg
    · rw [m1 x e] at hx; exact h.mN x hx
  · intro x
    by_cases e : x = g
    · rw [e, mg]; exact Nat.le_refl _
    · rw [m1 x e]; have := h.ms x; omega
  · intro x y hx e
    by_cases e1 : x = g
    · by_cases e2 : y = g
      · rw [e1, e2]
      · rw [e1, mg, m1 y e2] at e
        have := h.ms y; omega
    · rw [m1 x e1] at hx e
      by_cases e2 : y = g
      · rw [e2, mg] at e
        have := h.ms x; omega
      · rw [m1 y e2] at e
        exact h.mi x y hx e
  · intro x hx
    by_cases e : x = g
    · rw [e]; exact h.nz g h0
    · rw [m1 x e] at hx; exact h.nz x hx
  · intro x
    by_cases e : x = g
    · subst e
      rw [mg]
      simp [h.neg h0]
    · rw [m1 x e, ← h.om x]
      simp [e]
  · rw [List.pairwise_append]
    refine ⟨h.os.imp_of_mem (fun {a b} ha hb k => by rw [m1 a (one a ha), m1 b (one b hb)]; exact k), by simp, ?_⟩
    intro a ha b hb
    rw [List.mem_singleton] at hb
    rw [hb, mg, m1 a (one a ha)]
    have := h.ms a; omega
  · intro p hp2
    rw [List.mem_append, List.mem_singleton] at hp2 ⊢
    rcases hp2 with e | e
    · exact Or.inl (h.po p e)
    · exact Or.inr e
  · rw [List.pairwise_append]
    refine ⟨h.ps.imp_of_mem (fun {a b} ha hb k => by rw [m1 a (pne a ha), m1 b (pne b hb)]; exact k), by simp, ?_⟩
    intro a ha b hb
    rw [List.mem_singleton] at hb
    rw [hb, mg, m1 a (pne a ha)]
    have := h.ms a; omega
  · intro x hx
    have := h.cm x hx
    have hxg : x ≠ g := fun e => this.1 (e ▸ h0)
    rw [m1 x hxg]; exact this
  · intro x i z hi hz
    have hxg : x ≠ g := fun e => by rw [e, h.nz g h0] at hi; omega
    obtain ⟨k1, k2⟩ := h.pr x i z hi hz
    have hzg : z ≠ g := fun e => k1 (e ▸ h0)
    rw [m1 z hzg, l1 x hxg]
    refine ⟨k1, fun a b => k2 ?_ ?_⟩
    · simpa [hxg] using a
    · simpa [hzg] using b
  · intro x hx hxp
    rw [List.mem_append, List.mem_singleton] at hx hxp
    have hxg : x ≠ g := fun e => hxp (Or.inr e)
    rw [m1 x hxg, l1 x hxg]
    exact h.fi x (hx.resolve_right hxg) (fun e => hxp (Or.inl e))
  · intro x hx
    rw [List.mem_append, List.mem_singleton] at hx
    by_cases e : x = g
    · subst e
      rw [mg, lg]
      exact ⟨Nat.le_refl _, x, by simp, mg, .refl x⟩
    · rw [m1 x e, l1 x e]
      obtain ⟨k1, y, k2, k3, k4⟩ := h.lo x (hx.resolve_right e)
      exact ⟨k1, y, by simp [k2], by rw [m1 y (one y k2)]; exact k3, k4⟩
  · intro i p q h1 h2
    rw [List.getElem?_append] at h1 h2
    by_cases e : i + 1 < path.length
    · rw [if_pos (by omega)] at h1
      rw [if_pos e] at h2
      exact h.pc i p q h1 h2
    · rw [if_neg e] at h2
      by_cases e2 : i < path.length
      · rw [if_pos e2] at h1
        rw [show i + 1 - path.length = 0 by omega] at h2
        simp at h2
        rw [← h2]
        exact hp i p h1 (by omega)
      · have : 1 ≤ i + 1 - path.length := by omega
        rw [List.getElem?_eq_none (by simpa using this)] at h2
        cases h2
  · intro p hp2 x hx hle
    rw [List.mem_append, List.mem_singleton] at hp2 hx
    by_cases e : x = g
    · subst e
      by_cases e2 : p = x
      · rw [e2]; exact .refl x
      · have hpp := hp2.resolve_right e2
        obtain ⟨i, hi, e3⟩ := List.getElem_of_mem hpp
        have hpos : 0 < path.length := by omega
        obtain ⟨t, ht⟩ : ∃ t, path[path.length - 1]? = some t := ⟨_, List.getElem?_eq_getElem (by omega)⟩
        have htm : t ∈ path := List.mem_of_getElem? ht
        have hpt : met p ≤ met t := by
          by_cases e4 : i = path.length - 1
          · rw [List.getElem?_eq_getElem (by omega)] at ht
            injection ht with ht
            rw [← ht, ← e3]
            simp [e4]
          · have k := (List.pairwise_iff_getElem.1 h.ps) i (path.length - 1) hi (by omega) (by omega)
            rw [List.getElem?_eq_getElem (by omega)] at ht
            injection ht with ht
            rw [e3, ht] at k
            omega
        have k1 := h.p2 p hpp t (h.po t htm) hpt
        have k2 := hp _ t ht (by omega)
        exact .step k1 (List.mem_of_getElem? k2)
    · have hxo := hx.resolve_right e
      by_cases e2 : p = g
      · rw [e2, mg, m1 x e] at hle
        have := h.ms x; omega
      · rw [m1 p e2, m1 x e] at hle
        exact h.p2 p (hp2.resolve_right e2) x hxo hle
  · intro p hp2 x hx hxp hlt hq
    rw [List.mem_append, List.mem_singleton] at hp2 hx hxp
    have hxg : x ≠ g := fun e => hxp (Or.inr e)
    have hxo := hx.resolve_right hxg
    by_cases e2 : p = g
    · rw [e2, mg, m1 x hxg] at hlt
      have := h.ms x; omega
    · have hpp := hp2.resolve_right e2
      rw [m1 p e2, m1 x hxg] at hlt
      rw [l1 p e2, l1 x hxg]
      rcases h.lp p hpp x hxo (fun e => hxp (Or.inl e)) hlt (fun q hqp => by
        have := hq q (by simp [hqp])
        rw [m1 q (pne q hqp), m1 p e2, m1 x hxg] at this
        exact this) with k | ⟨c, c1, c2, c3⟩
      · exact Or.inl k
      · exact Or.inr ⟨c, c1, by simp [c2], by rw [l1 c (one c c2)]; exact c3⟩
/-- One more call of the path's last is looked at. -/
theorem TI.along (h : TI N cl of met low nxt (r ++ [f]) opn count steps) (hg : (cl f)[nxt f]? = some g) (h0 : met g ≠ 0) :
    TI N cl of met (Wg.upd low f (if of g < 0 then min (low f) (low g) else low f)) (Wg.upd nxt f (nxt f + 1)) (r ++ [f]) opn count steps := by
  have hfp : f ∈ r ++ [f] := by simp
  have hfo := h.po f hfp
  have hfm : met f ≠ 0 := ((h.om f).1 hfo).1
  have n1 : ∀ x, x ≠ f → Wg.upd nxt f (nxt f + 1) x = nxt x := fun x e => Wg.upd_ne _ _ e
  have nf : Wg.upd nxt f (nxt f + 1) f = nxt f + 1 := Wg.upd_same _ _ _
  obtain ⟨L, hL⟩ : ∃ L, L = (if of g < 0 then min (low f) (low g) else low f) := ⟨_, rfl⟩
  rw [← hL]
  have l1 : ∀ x, x ≠ f → Wg.upd low f L x = low x := fun x e => Wg.upd_ne _ _ e
  have lf : Wg.upd low f L f = L := Wg.upd_same _ _ _
  have hLf : L ≤ low f := by rw [hL]; split <;> omega
  have hLg : g ∈ opn → L ≤ low g := fun e => by rw [hL, if_pos ((h.om g).1 e).2]; omega
  have hlt : nxt f < (cl f).length := by
    by_cases e : nxt f < (cl f).length
    · exact e
    · rw [List.getElem?_eq_none (by omega)] at hg; cases hg
  have lle : ∀ x, Wg.upd low f L x ≤ low x := fun x => by
    by_cases e : x = f
    · rw [e, lf]; exact hLf
    · rw [l1 x e]; exact Nat.le_refl _
  refine ⟨h.st, h.mN, h.ms, h.mi, ?_, h.om, h.os, h.po, h.ps, h.cm, h.cs, ?_, ?_, h.cc, h.cr, ?_, ?_, ?_, h.p2, ?_⟩
  · intro x hx
    have : x ≠ f := fun e => hfm (e ▸ hx)
    rw [n1 x this]; exact h.nz x hx
  · intro x
    by_cases e : x = f
    · rw [e, nf]; omega
    · rw [n1 x e]; exact h.nl x
  · intro x i z hi hz
    by_cases e : x = f
    · subst e
      rw [nf] at hi
      rw [lf]
      by_cases e2 : i = nxt x
      · rw [e2, hg] at hz
        injection hz with hz
        subst hz
        exact ⟨h0, fun _ k => Nat.le_trans (hLg k) (h.lo g k).1⟩
      · obtain ⟨k1, k2⟩ := h.pr x i z (by omega) hz
        exact ⟨k1, fun a b => Nat.le_trans hLf (k2 a b)⟩
    · rw [n1 x e] at hi
      rw [l1 x e]
      exact h.pr x i z hi hz
  · intro x hx hxp
    have e : x ≠ f := fun e => hxp (e ▸ hfp)
    rw [n1 x e, l1 x e]
    exact h.fi x hx hxp
  · intro x hx
    by_cases e : x = f
    · subst e
      rw [lf]
      refine ⟨Nat.le_trans hLf (h.lo x hx).1, ?_⟩
      by_cases e2 : of g < 0
      · have hgo : g ∈ opn := (h.om g).2 ⟨h0, e2⟩
        rw [hL, if_pos e2]
        by_cases e3 : low x ≤ low g
        · rw [Nat.min_eq_left e3]
          exact (h.lo x hx).2
        · rw [Nat.min_eq_right (by omega)]
          obtain ⟨y, k1, k2, k3⟩ := (h.lo g hgo).2
          exact ⟨y, k1, k2, Rch.trans (.step (.refl x) (List.mem_of_getElem? hg)) k3⟩
      · rw [hL, if_neg e2]
        exact (h.lo x hx).2
    · rw [l1 x e]
      exact h.lo x hx
  · intro i p q h1 h2
    have hpf : p ≠ f := fun e => by
      have hi : i < (r ++ [f]).length := by
        by_cases e2 : i < (r ++ [f]).length
        · exact e2
        · rw [List.getElem?_eq_none (by omega)] at h1; cases h1
      have hi2 : i + 1 < (r ++ [f]).length := by
        by_cases e2 : i + 1 < (r ++ [f]).length
        · exact e2
        · rw [List.getElem?_eq_none (by omega)] at h2; cases h2
      have k := (List.pairwise_iff_getElem.1 h.ps) i r.length hi (by simp) (by simp at hi2; omega)
      rw [List.getElem?_eq_getElem hi] at h1
      injection h1 with h1
      rw [h1, e] at k
      simp at k
    rw [n1 p hpf]
    exact h.pc i p q h1 h2
  · intro p hp x hx hxp hlt2 hq
    have hxf : x ≠ f := fun e => hxp (e ▸ hfp)
    rw [l1 x hxf]
    by_cases e : p = f
    · subst e
      rw [lf]
      rcases h.lp p hp x hx hxp hlt2 hq with k | ⟨c, c1, c2, c3⟩
      · exact Or.inl (by omega)
      · rw [hg] at c1
        injection c1 with c1
        subst c1
        exact Or.inl (by have := hLg c2; omega)
    · rw [l1 p e, n1 p e]
      rcases h.lp p hp x hx hxp hlt2 hq with k | ⟨c, c1, c2, c3⟩
      · exact Or.inl k
      · exact Or.inr ⟨c, c1, c2, Nat.le_trans (lle c) c3⟩
theorem TI.last (h : TI N cl of met low nxt (r ++ [f]) opn count steps) : ∀ q ∈ r, met q < met f := by
  have := h.ps
  rw [List.pairwise_append] at this
  exact fun q hq => this.2.2 q hq f (by simp)
/-- What is open behind the path's last, once that one has been gone through, has no lower low. -/
theorem TI.lows (h : TI N cl of met low nxt (r ++ [f]) opn count steps) (hn : nxt f = (cl f).length) {x : Nat} (hx : x ∈ opn) (hlt : met f < met x) : x ∉ r ++ [f] ∧ low f ≤ low x := by
  have hxp : x ∉ r ++ [f] := by
    intro e
    rw [List.mem_append, List.mem_singleton] at e
    rcases e with e | e
    · have := h.last x e; omega
    · subst e; omega
  refine ⟨hxp, ?_⟩
  rcases h.lp f (by simp) x hx hxp hlt (fun q hq => by
    rw [List.mem_append, List.mem_singleton] at hq
    rcases hq with e | e
    · exact Or.inl (Nat.le_of_lt (h.last q e))
    · exact Or.inl (by rw [e]; exact Nat.le_refl _)) with k | ⟨c, c1, -⟩
  · exact k
  · rw [hn, List.getElem?_eq_none (Nat.le_refl _)] at c1
    cases c1
/-- The path's last has been gone through, and reaches one that was met ahead of it. -/
theorem TI.leave (h : TI N cl of met low nxt (r ++ [f]) opn count steps) (hn : nxt f = (cl f).length) (hl : low f ≠ met f) :
    TI N cl of met low nxt r opn count steps := by
  have hfo : f ∈ opn := h.po f (by simp)
  have hfr : f ∉ r := fun e => by have := h.last f e; omega
  refine ⟨h.st, h.mN, h.ms, h.mi, h.nz, h.om, h.os, fun p hp => h.po p (by simp [hp]), ?_, h.cm, h.cs, h.nl, h.pr, h.cc, h.cr, ?_, h.lo, ?_, fun p hp => h.p2 p (by simp [hp]), ?_⟩
  · have := h.ps
    rw [List.pairwise_append] at this
    exact this.1
  · intro x hx hxr
    by_cases e : x = f
    · subst e
      have := (h.lo x hx).1
      exact ⟨hn, by omega⟩
    · exact h.fi x hx (by simp [hxr, e])
  · intro i p q h1 h2
    have i1 : i + 1 < r.length := by
      by_cases e : i + 1 < r.length
      · exact e
      · rw [List.getElem?_eq_none (by omega)] at h2; cases h2
    exact h.pc i p q (by rw [List.getElem?_append, if_pos (by omega)]; exact h1) (by rw [List.getElem?_append, if_pos i1]; exact h2)
  · intro p hp x hx hxr hlt hq
    by_cases hxf : met f ≤ met x
    · -- behind f, or f itself: p is the last of what is left
      have hlow : low f ≤ low x := by
        by_cases e : x = f
        · rw [e]; exact Nat.le_refl _
        · have hm : met f ≠ met x := fun e2 => e (h.mi f x ((h.om f).1 hfo).1 e2).symm
          exact (h.lows hn hx (by omega)).2
      obtain ⟨i, hi, ei⟩ := List.getElem_of_mem hp
      have hil : i + 1 = r.length := by
        by_cases e : i + 1 < r.length
        · exfalso
          have hps := h.ps
          rw [List.pairwise_append] at hps
          have k := (List.pairwise_iff_getElem.1 hps.1) i (i + 1) hi e (by omega)
          have k2 := hq (r[i + 1]) (List.getElem_mem e)
          have k3 := h.last (r[i + 1]) (List.getElem_mem e)
          rw [ei] at k
          omega
        · omega
      have hc := h.pc i p f (by rw [List.getElem?_append, if_pos hi, List.getElem?_eq_getElem hi, ei]) (by rw [List.getElem?_append, if_neg (by omega), hil]; simp)
      exact Or.inr ⟨f, hc, hfo, hlow⟩
    · have hxp : x ∉ r ++ [f] := by
        rw [List.mem_append, List.mem_singleton]
        rintro (e | e)
        · exact hxr e
        · subst e; omega
      exact h.lp p (by simp [hp]) x hx hxp hlt (fun q hqp => by
        rw [List.mem_append, List.mem_singleton] at hqp
        rcases hqp with e | e
        · exact hq q e
        · exact Or.inr (by rw [e]; omega))
/-- All that is open from the path's last on reaches it. -/
theorem TI.back (h : TI N cl of met low nxt (r ++ [f]) opn count steps) (hn : nxt f = (cl f).length) (hl : low f = met f) : ∀ (n x : Nat), met x = n → x ∈ opn → met f ≤ met x → Rch cl x f := by
  intro n
  induction n using Nat.strongRecOn with
  | ind n ih =>
    intro x en hx hle
    by_cases e : met f = met x
    · have hfo : f ∈ opn := h.po f (by simp)
      rw [h.mi f x ((h.om f).1 hfo).1 e]
      exact .refl x
    · obtain ⟨k1, k2⟩ := h.lows hn hx (by omega)
      obtain ⟨-, k3⟩ := h.fi x hx k1
      obtain ⟨-, y, y1, y2, y3⟩ := h.lo x hx
      exact y3.trans (ih (met y) (by omega) y rfl y1 (by omega))
/-- The path's last has been gone through, and reaches none that was met ahead of it: what is open from it on is a component. -/
theorem TI.told {a b : List Nat} (h : TI N cl of met low nxt (r ++ [f]) (a ++ f :: b) count steps) (hn : nxt f = (cl f).length) (hl : low f = met f) :
    TI N cl (fun x => if x ∈ f :: b then (count : Int) else of x) met low nxt r a (count + 1) steps := by
  have hos := h.os
  rw [List.pairwise_append] at hos
  obtain ⟨oa, ob, oab⟩ := hos
  have hfo : f ∈ a ++ f :: b := by simp
  have ha : ∀ x ∈ a, met x < met f := fun x hx => oab x hx f (by simp)
  have hb : ∀ x ∈ f :: b, met f ≤ met x := fun x hx => by
    rw [List.mem_cons] at hx
    rcases hx with e | e
    · rw [e]; exact Nat.le_refl _
    · rw [List.pairwise_cons] at ob
      exact Nat.le_of_lt (ob.1 x e)
  have hna : ∀ x ∈ a, x ∉ f :: b := fun x hx e => by have := ha x hx; have := hb x e; omega
  have side : ∀ x ∈ a ++ f :: b, met f ≤ met x → x ∈ f :: b := fun x hx hle => by
    rw [List.mem_append] at hx
    rcases hx with e | e
    · have := ha x e; omega
    · exact e
  have neg : ∀ x ∈ f :: b, met x ≠ 0 ∧ of x < 0 := fun x hx => (h.om x).1 (by rw [List.mem_append]; exact Or.inr hx)
  have clo : ∀ x, 0 ≤ of x → x ∉ f :: b := fun x hx e => by have := (neg x e).2; omega
  have ra : ∀ p ∈ r, p ∈ a := fun p hp => by
    have k := h.po p (by simp [hp])
    have k2 := h.last p hp
    rw [List.mem_append] at k
    rcases k with e | e
    · exact e
    · have := hb p e; omega
  have oneT : ∀ x ∈ f :: b, nxt x = (cl x).length ∧ met f ≤ low x := fun x hx => by
    have hxo : x ∈ a ++ f :: b := by rw [List.mem_append]; exact Or.inr hx
    by_cases e : met f = met x
    · rw [← h.mi f x (neg f (by simp)).1 e]
      exact ⟨hn, by omega⟩
    · have := hb x hx
      obtain ⟨k1, k2⟩ := h.lows hn hxo (by omega)
      exact ⟨(h.fi x hxo k1).1, by omega⟩
  refine ⟨h.st, h.mN, h.ms, h.mi, h.nz, ?_, oa, ra, ?_, ?_, ?_, h.nl, ?_, ?_, ?_, ?_, ?_, ?_, ?_, ?_⟩
  · intro x
    have k := h.om x
    rw [List.mem_append] at k
    by_cases e : x ∈ f :: b
    · simp only [if_pos e]
      constructor
      · intro hx; exact absurd e (hna x hx)
      · intro hx; omega
    · simp only [if_neg e]
      rw [← k]
      constructor
      · exact Or.inl
      · intro hx; exact hx.resolve_right e
  · have := h.ps
    rw [List.pairwise_append] at this
    exact this.1
  · intro x hx
    by_cases e : x ∈ f :: b
    · simp only [if_pos e] at hx ⊢
      exact ⟨(neg x e).1, by omega⟩
    · simp only [if_neg e] at hx ⊢
      obtain ⟨k1, k2⟩ := h.cm x hx
      exact ⟨k1, by omega⟩
  · intro k hk
    by_cases e : k = count
    · exact ⟨f, by simp [e]⟩
    · obtain ⟨x, hx⟩ := h.cs k (by omega)
      refine ⟨x, ?_⟩
      simp only [if_neg (clo x (by omega))]
      exact hx
  · intro x i z hi hz
    obtain ⟨k1, k2⟩ := h.pr x i z hi hz
    exact ⟨k1, fun c d => k2 (by simp [c]) (by simp [d])⟩
  · intro x hx z hz
    by_cases e : x ∈ f :: b
    · simp only [if_pos e]
      obtain ⟨n1, n2⟩ := oneT x e
      obtain ⟨i, hi, ei⟩ := List.getElem_of_mem hz
      obtain ⟨k1, k2⟩ := h.pr x i z (by omega) (by rw [List.getElem?_eq_getElem hi, ei])
      by_cases e2 : z ∈ f :: b
      · simp only [if_pos e2]; omega
      · simp only [if_neg e2]
        by_cases e3 : of z < 0
        · exfalso
          have hzo := (h.om z).2 ⟨k1, e3⟩
          have k3 := k2 (by rw [List.mem_append]; exact Or.inr e) hzo
          exact e2 (side z hzo (by omega))
        · have := (h.cm z (by omega)).2
          omega
    · simp only [if_neg e] at hx ⊢
      obtain ⟨k1, k2⟩ := h.cc x hx z hz
      simp only [if_neg (clo z k1)]
      exact ⟨k1, k2⟩
  · intro x y hx hxy
    by_cases e : x ∈ f :: b
    · simp only [if_pos e] at hxy
      by_cases e2 : y ∈ f :: b
      · have k1 := h.back hn hl _ x rfl (by rw [List.mem_append]; exact Or.inr e) (hb x e)
        have k2 := h.p2 f (by simp) y (by rw [List.mem_append]; exact Or.inr e2) (hb y e2)
        exact k1.trans k2
      · simp only [if_neg e2] at hxy
        have := (h.cm y (by omega)).2
        omega
    · simp only [if_neg e] at hx hxy
      by_cases e2 : y ∈ f :: b
      · simp only [if_pos e2] at hxy
        have := (h.cm x hx).2
        omega
      · simp only [if_neg e2] at hxy
        exact h.cr x y hx hxy
  · intro x hx hxr
    have e : x ≠ f := fun e => by have := ha x hx; rw [e] at this; omega
    exact h.fi x (by simp [hx]) (by simp [hxr, e])
  · intro x hx
    obtain ⟨k1, y, k2, k3, k4⟩ := h.lo x (by simp [hx])
    refine ⟨k1, y, ?_, k3, k4⟩
    rw [List.mem_append] at k2
    rcases k2 with e | e
    · exact e
    · have := hb y e; have := ha x hx; omega
  · intro i p q h1 h2
    have i1 : i + 1 < r.length := by
      by_cases e : i + 1 < r.length
      · exact e
      · rw [List.getElem?_eq_none (by omega)] at h2; cases h2
    exact h.pc i p q (by rw [List.getElem?_append, if_pos (by omega)]; exact h1) (by rw [List.getElem?_append, if_pos i1]; exact h2)
  · exact fun p hp x hx => h.p2 p (by simp [hp]) x (by simp [hx])
  · intro p hp x hx hxr hlt hq
    have hxf := ha x hx
    have e : x ≠ f := fun e => by rw [e] at hxf; omega
    have hxp : x ∉ r ++ [f] := by simp [hxr, e]
    rcases h.lp p (by simp [hp]) x (by simp [hx]) hxp hlt (fun q hqp => by
        rw [List.mem_append, List.mem_singleton] at hqp
        rcases hqp with e | e
        · exact hq q e
        · exact Or.inr (by rw [e]; omega)) with k | ⟨c, c1, c2, c3⟩
    · exact Or.inl k
    · rw [List.mem_append] at c2
      rcases c2 with e2 | e2
      · exact Or.inr ⟨c, c1, e2, c3⟩
      · have k1 := (oneT c e2).2
        have k2 := (h.fi x (by simp [hx]) hxp).2
        omega
/-- Where no path is left, none is open. -/
theorem TI.done (h : TI N cl of met low nxt [] opn count steps) : opn = [] := by
  have key : ∀ n x, met x = n → x ∈ opn → False := by
    intro n
    induction n using Nat.strongRecOn with
    | ind n ih =>
      intro x en hx
      have k := (h.fi x hx (by simp)).2
      obtain ⟨-, y, y1, y2, -⟩ := h.lo x hx
      exact ih (met y) (by omega) y rfl y1
  cases opn with
  | nil => rfl
  | cons x l => exact (key _ x rfl (by simp)).elim
/-- What the search tells in the end: its numbers are the components. -/
theorem TI.rings (h : TI N cl of met low nxt [] opn count steps) (hm : ∀ x, x < N → met x ≠ 0) (x y : Nat) (hx : x < N) (hy : y < N) :
    (0 ≤ of x ∧ of x < count) ∧ (Rch cl x y → of y ≤ of x) ∧ (of x = of y ↔ Rch cl x y ∧ Rch cl y x) := by
  have hof : ∀ x, x < N → 0 ≤ of x := fun x hx => by
    have k := h.om x
    rw [h.done] at k
    by_cases e : of x < 0
    · have := k.2 ⟨hm x hx, e⟩
      cases this
    · omega
  have down : ∀ x y, 0 ≤ of x → Rch cl x y → 0 ≤ of y ∧ of y ≤ of x := by
    intro x y hx k
    induction k with
    | refl => exact ⟨hx, Int.le_refl _⟩
    | step _ m ih =>
      obtain ⟨k1, k2⟩ := h.cc _ ih.1 _ m
      exact ⟨k1, by omega⟩
  refine ⟨⟨hof x hx, (h.cm x (hof x hx)).2⟩, fun k => (down x y (hof x hx) k).2, fun e => ⟨h.cr x y (hof x hx) e, h.cr y x (hof y hy) e.symm⟩, fun ⟨a, b⟩ => ?_⟩
  have k1 := (down x y (hof x hx) a).2
  have k2 := (down y x (hof y hy) b).2
  omega
end
end Go.Proofs.YtjmbfjaahadbhaaGreatDoor
