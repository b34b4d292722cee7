import Derived.Test.YtjmbfjaahadbhaaDoorQB5J
import Derived.BigQuiet
import Derived.Laws.OwnMore
import Derived.Laws.MakeOwn
import Derived.StillTailTactics
import Derived.Deep.RegionLaw
set_option linter.unusedVariables false
set_option linter.unusedSimpArgs false
namespace Go.Proofs.YtjmbfjaahadbhaaDoor
open Go.RowKit (wrap32 wrap64)
theorem heap_new0 (w : World) (o : Obj) : (w.alloc o).heap[w.heap.size]? = some o := (MapKept.heap_alloc w o).1
theorem cell_of0 {w : World} {k : Nat} {cs : Array Value} {t : TypeId} (h : w.heap[k]? = some (.cells cs t)) (o : Nat) : w.cell? ⟨k, o, none⟩ = cs[o]? := by
  unfold World.cell?; rw [h]; simp
theorem heap_lt0 {w : World} {k : Nat} {o : Obj} (h : w.heap[k]? = some o) : k < w.heap.size := (Array.getElem?_eq_some_iff.1 h).1

theorem own_slice {w : World} {B e sz n : Nat} {v : Value} {xs : List Value} (h : w.ownsRow B e sz v n xs) : ∃ a c, v = .slice a n c := by
  rcases h.2 with ⟨e, e2⟩ | ⟨g, cap, cur, e, -⟩
  · exact ⟨none, 0, by rw [e, e2]⟩
  · exact ⟨_, _, e⟩
theorem keepA {W : World} {k : Nat} {o' : Obj} (h : W.heap[k]? = some o') (o : Obj) : (W.alloc o).heap[k]? = some o' := by rw [Go.RowKit.Below.heap_alloc _ _ _ (heap_lt h)]; exact h
theorem keepF {W W' : World} {k : Nat} {o' : Obj} (h : W.heap[k]? = some o') (f : Fr (fun _ => False) W W') : W'.heap[k]? = some o' := (f.block k (heap_lt h) (fun e => e)).trans h

theorem addr_plus (b off i : Nat) : (⟨b, off, none⟩ : Addr).add i = ⟨b, off + i, none⟩ := by unfold Addr.add; split <;> simp_all
/-- An element of a row of one's own is written over. -/
theorem row_set {w : World} {B e sz n g cap j : Nat} {xs : List Value} (h : w.ownsRow B e sz (.slice (some ⟨g, 0, none⟩) n cap) n xs) (u : Value) :
    (w.setCell ⟨g, j, none⟩ u).ownsRow B e sz (.slice (some ⟨g, 0, none⟩) n cap) n (xs.set j u) ∧ w.frozen? ⟨g, j, none⟩ = false := by
  obtain ⟨h0, h1⟩ := h
  rcases h1 with ⟨e1, -⟩ | ⟨g', cap', cur, e1, k1, k2, k3, k4, k5, k6⟩
  · cases e1
  · cases e1
    refine ⟨⟨by rw [List.length_set]; exact h0, Or.inr ⟨g, cap, cur.setIfInBounds j u, rfl, k1, set_of k2 j u, k3, k4, by simpa using k5, ?_⟩⟩, frozen_of k2 j⟩
    rw [← k6, Array.toList_setIfInBounds, List.take_set]
/-- Nothing is appended. -/
theorem run_append_none0 {P : Program} {w : World} (base : Nat) (t ty e : TypeId) (i : TypeInfo) (size : Nat) (ht : P.underlying t = some (.slice e)) (hi : P.info? e = some i)
    (v : Value) (n : Nat) (xs : List Value) (hown : w.ownsRow base e size v n xs) (ad : Addr) (c : Nat) :
    (Builtin.append_ #[t, t] ty #[v, .slice (some ad) 0 c]).run P w = .ok v w := by
  rcases hown.2 with ⟨rfl, rfl⟩ | ⟨g, cap, cur, rfl, _, _, hnc, _⟩
  · simp [Builtin.append_, run_underlying ht, sizeOf, typeInfo, hi, Builtin.lenOf, Builtin.firstCells, loadCells, loadCellsFrom]
  · simp [Builtin.append_, run_underlying ht, sizeOf, typeInfo, hi, Builtin.lenOf, Builtin.firstCells, hnc, storeCells, loadCells, loadCellsFrom]
theorem wpList_append_none0 {P : Program} {w : World} {ops : Array Oper} {rest : List Oper} {o : Oper} {a : Act} {Q : Exit → Act → World → Prop} (hgd : o.guard = none) (s x : Operand) (t : TypeId)
    (ho : o.op = .call { callee := .builtin .append, args := #[s, x], argTypes := #[t, t] })
    (base : Nat) (e : TypeId) (i : TypeInfo) (size : Nat) (ht : P.underlying t = some (.slice e)) (hi : P.info? e = some i)
    (v : Value) (n : Nat) (xs : List Value) (hs : a.eval s = v) (hown : w.ownsRow base e size v n xs) (ad : Addr) (c : Nat) (hx : a.eval x = .slice (some ad) 0 c)
    (h : wpList P ops Q rest (a.put o.dst v) w) : wpList P ops Q (o :: rest) a w := by
  refine wpList_plain hgd fun K hK => ?_
  have hrun := run_append_none0 (P := P) (w := w) base t o.type e i size ht hi v n xs hown ad c
  unfold Oper.wp
  simp [execOp, ho, resolve, invoke, builtin, hs, hx, hrun, Result.andThen]
  exact hK _ _ h


namespace Wg
/-! ### rows of cells -/
def upd {α : Type} (f : Nat → α) (i : Nat) (x : α) : Nat → α := fun j => if j = i then x else f j
theorem upd_same {α : Type} (f : Nat → α) (i : Nat) (x : α) : upd f i x i = x := by simp [upd]
theorem upd_ne {α : Type} (f : Nat → α) {i j : Nat} (x : α) (h : j ≠ i) : upd f i x j = f j := by simp [upd, h]
theorem upd_map {α β : Type} (g : α → β) (f : Nat → α) (i : Nat) (x : α) : (fun j => g (upd f i x j)) = upd (fun j => g (f j)) i (g x) := by
  funext j; unfold upd; split <;> rfl

/-- A block of m cells of a type. -/
def Row (w : World) (t : TypeId) (b m : Nat) (g : Nat → Value) : Prop := ∃ cs : Array Value, w.heap[b]? = some (.cells cs t) ∧ cs.size = m ∧ ∀ i, i < m → cs[i]? = some (g i)
theorem Row.lt {w : World} {t : TypeId} {b m : Nat} {g : Nat → Value} (h : Row w t b m g) : b < w.heap.size := by obtain ⟨cs, h, -⟩ := h; exact heap_lt h
theorem Row.cell {w : World} {t : TypeId} {b m : Nat} {g : Nat → Value} (h : Row w t b m g) {i : Nat} (hi : i < m) : w.cell? ⟨b, i, none⟩ = some (g i) := by
  obtain ⟨cs, h, hs, hc⟩ := h; rw [cell_of h]; exact hc i hi
theorem Row.frozen {w : World} {t : TypeId} {b m : Nat} {g : Nat → Value} (h : Row w t b m g) (i : Nat) : w.frozen? ⟨b, i, none⟩ = false := by
  obtain ⟨cs, h, hs, hc⟩ := h; exact frozen_of h i
theorem Row.fr {S : Nat → Prop} {w w' : World} {t : TypeId} {b m : Nat} {g : Nat → Value} (h : Row w t b m g) (f : Fr S w w') (hS : ¬ S b) : Row w' t b m g := by
  have hl := h.lt
  obtain ⟨cs, h, hs, hc⟩ := h; exact ⟨cs, (f.block b hl hS).trans h, hs, hc⟩
theorem Row.set {w : World} {t : TypeId} {b m : Nat} {g : Nat → Value} (h : Row w t b m g) (i : Nat) (v : Value) : Row (w.setCell ⟨b, i, none⟩ v) t b m (upd g i v) := by
  obtain ⟨cs, h, hs, hc⟩ := h
  refine ⟨cs.setIfInBounds i v, set_of h i v, by simpa using hs, fun j hj => ?_⟩
  rw [Array.getElem?_setIfInBounds]
  by_cases e : i = j
  · subst e; simp [upd, hs, hj]
  · rw [if_neg e, hc j hj, upd_ne _ _ (fun x => e x.symm)]
theorem Row.congr {w : World} {t : TypeId} {b m : Nat} {g g' : Nat → Value} (h : Row w t b m g) (e : ∀ i, i < m → g i = g' i) : Row w t b m g' := by
  obtain ⟨cs, h, hs, hc⟩ := h
  exact ⟨cs, h, hs, fun i hi => (hc i hi).trans (by rw [e i hi])⟩
theorem Row.setI {w : World} {t : TypeId} {b m : Nat} {f : Nat → Int} (h : Row w t b m (fun i => vI (f i))) (i : Nat) (x : Int) : Row (w.setCell ⟨b, i, none⟩ (vI x)) t b m (fun j => vI (upd f i x j)) :=
  (h.set i (vI x)).congr fun j _ => by unfold upd; split <;> rfl
theorem Row.setB {w : World} {t : TypeId} {b m : Nat} {f : Nat → Bool} (h : Row w t b m (fun i => .bool (f i))) (i : Nat) (x : Bool) : Row (w.setCell ⟨b, i, none⟩ (.bool x)) t b m (fun j => .bool (upd f i x j)) :=
  (h.set i (.bool x)).congr fun j _ => by unfold upd; split <;> rfl
theorem Row.made (w : World) (t : TypeId) (m : Nat) (v : Value) : Row (w.alloc (.cells (Array.replicate m v) t)) t w.heap.size m (fun _ => v) :=
  ⟨_, heap_new w _, by simp, fun i hi => by simp [Array.getElem?_replicate, hi]⟩


end Wg

/-! ### the search through the functions -/
/-- A list of one's own, cut at its end. -/
theorem iown_cut {w : World} {B g n c : Nat} {l : List Int} (h : IOwn w B (.slice (some ⟨g, 0, none⟩) n c) l) {m : Nat} (hm : m ≤ n) (hn : n = l.length) : IOwn w B (.slice (some ⟨g, 0, none⟩) m c) (l.take m) := by
  rcases h.2 with ⟨e, -⟩ | ⟨g', cap', cur, e, h1, h2, h3, h4, h5, h6⟩
  · cases e
  · injection e with e1 e2 e3
    injection e1 with e1
    injection e1 with e1
    subst e1
    subst e3
    have hl : (l.take m).length = m := by rw [List.length_take]; omega
    refine ⟨by simp, Or.inr ⟨g, c, cur, by rw [hl], h1, h2, by omega, h4, h5, ?_⟩⟩
    rw [hl, Nat.mul_one]
    rw [Nat.mul_one] at h6
    have k := congrArg (List.take m) h6
    rw [List.take_take, Nat.min_eq_left (by omega)] at k
    rw [k, List.map_take]
/-- The search as it stands. -/
structure Sc (w : World) (B b go gm gl gn N : Nat) (clv pv ov : Value) (of met low nxt : Nat → Int) (count steps : Nat) (path opn : List Int) : Prop where
  blk : w.heap[b]? = some (.cells #[clv, .slice (some ⟨go, 0, none⟩) N N, vI (count : Int), .slice (some ⟨gm, 0, none⟩) N N, .slice (some ⟨gl, 0, none⟩) N N, .slice (some ⟨gn, 0, none⟩) N N, pv, ov, vI (steps : Int)] 88)
  rof : Wg.Row w 3 go N (fun i => vI (of i))
  rme : Wg.Row w 3 gm N (fun i => vI (met i))
  rlo : Wg.Row w 3 gl N (fun i => vI (low i))
  rnx : Wg.Row w 3 gn N (fun i => vI (nxt i))
  rp : IOwn w B pv path
  ro : IOwn w B ov opn
  lt : b < B ∧ go < B ∧ gm < B ∧ gl < B ∧ gn < B
  ne : go ≠ gm ∧ go ≠ gl ∧ go ≠ gn ∧ gm ≠ gl ∧ gm ≠ gn ∧ gl ≠ gn
  ap : ∀ k, pv.ownBlock = some k → ov.ownBlock ≠ some k
section
variable {w w' : World} {B b go gm gl gn N : Nat} {clv pv ov : Value} {of met low nxt : Nat → Int} {count steps : Nat} {path opn : List Int}
theorem Sc.stay (h : Sc w B b go gm gl gn N clv pv ov of met low nxt count steps path opn) (f : Fr (fun _ => False) w w') : Sc w' B b go gm gl gn N clv pv ov of met low nxt count steps path opn :=
  ⟨keepF h.blk f, h.rof.fr f (fun e => e), h.rme.fr f (fun e => e), h.rlo.fr f (fun e => e), h.rnx.fr f (fun e => e), h.rp.fr f (fun _ _ e => e), h.ro.fr f (fun _ _ e => e), h.lt, h.ne, h.ap⟩
theorem row3_ne {w : World} {b g N : Nat} {cs : Array Value} {f : Nat → Value} (h : w.heap[b]? = some (.cells cs 88)) (k : Wg.Row w 3 g N f) : g ≠ b := fun e => by
  subst e
  obtain ⟨ds, h1, -⟩ := k
  rw [h1] at h
  injection h with h
  injection h with _ h
  cases h
/-- A function's component is told. -/
theorem Sc.setOf (h : Sc w B b go gm gl gn N clv pv ov of met low nxt count steps path opn) (i : Nat) (x : Int) : Sc (w.setCell ⟨go, i, none⟩ (vI x)) B b go gm gl gn N clv pv ov (Wg.upd of i x) met low nxt count steps path opn := by
  have f : Fr (fun j => j = go) w (w.setCell ⟨go, i, none⟩ (vI x)) := setCell_fr w go i _
  obtain ⟨n1, n2, n3, n4, n5, n6⟩ := h.ne
  obtain ⟨l0, l1, l2, l3, l4⟩ := h.lt
  exact ⟨(f.block b (heap_lt0 h.blk) (fun e => row3_ne h.blk h.rof e.symm)).trans h.blk, h.rof.setI i x, h.rme.fr f (fun e => n1 e.symm), h.rlo.fr f (fun e => n2 e.symm), h.rnx.fr f (fun e => n3 e.symm), h.rp.fr f (fun k e e2 => by have := (h.rp.ge k e).1; omega), h.ro.fr f (fun k e e2 => by have := (h.ro.ge k e).1; omega), h.lt, h.ne, h.ap⟩
/-- The list of those that are open is cut. -/
theorem Sc.setOpen (h : Sc w B b go gm gl gn N clv pv ov of met low nxt count steps path opn) {ov' : Value} {opn' : List Int} (ho : IOwn w B ov' opn') (ha : ∀ k, ov'.ownBlock = some k → ov.ownBlock = some k) : Sc (w.setCell ⟨b, 7, none⟩ ov') B b go gm gl gn N clv pv ov' of met low nxt count steps path opn' := by
  have f : Fr (fun j => j = b) w (w.setCell ⟨b, 7, none⟩ ov') := setCell_fr w b 7 _
  obtain ⟨l0, l1, l2, l3, l4⟩ := h.lt
  exact ⟨set_of h.blk 7 _, h.rof.fr f (row3_ne h.blk h.rof), h.rme.fr f (row3_ne h.blk h.rme), h.rlo.fr f (row3_ne h.blk h.rlo), h.rnx.fr f (row3_ne h.blk h.rnx), h.rp.fr f (fun k e e2 => by have := (h.rp.ge k e).1; omega), ho.fr f (fun k e e2 => by have := (ho.ge k e).1; omega), h.lt, h.ne, fun k e e2 => h.ap k e (ha k e2)⟩
/-- One component more. -/
theorem Sc.setCount (h : Sc w B b go gm gl gn N clv pv ov of met low nxt count steps path opn) : Sc (w.setCell ⟨b, 2, none⟩ (vI ((count + 1 : Nat) : Int))) B b go gm gl gn N clv pv ov of met low nxt (count + 1) steps path opn := by
  have f : Fr (fun j => j = b) w (w.setCell ⟨b, 2, none⟩ (vI ((count + 1 : Nat) : Int))) := setCell_fr w b 2 _
  obtain ⟨l0, l1, l2, l3, l4⟩ := h.lt
  exact ⟨set_of h.blk 2 _, h.rof.fr f (row3_ne h.blk h.rof), h.rme.fr f (row3_ne h.blk h.rme), h.rlo.fr f (row3_ne h.blk h.rlo), h.rnx.fr f (row3_ne h.blk h.rnx), h.rp.fr f (fun k e e2 => by have := (h.rp.ge k e).1; omega), h.ro.fr f (fun k e e2 => by have := (h.ro.ge k e).1; omega), h.lt, h.ne, h.ap⟩
end

/-- Of whom the component is told when all from place r on are. -/
def ofX (of : Nat → Int) (l : List Int) (count : Nat) (r : Nat) (i : Nat) : Int := if (i : Int) ∈ l.drop r then (count : Int) else of i
theorem ofX_step (of : Nat → Int) (l : List Int) (count r x : Nat) (hr : r < l.length) (hx : l[r] = (x : Int)) : Wg.upd (ofX of l count (r + 1)) x (count : Int) = ofX of l count r := by
  funext i
  unfold ofX
  rw [List.drop_eq_getElem_cons hr, hx]
  by_cases e : i = x
  · subst e
    rw [Wg.upd_same]
    simp
  · rw [Wg.upd_ne _ _ e]
    have e2 : ¬ ((i : Int) = x) := by omega
    simp [e2]
/-- What tell leaves. -/
def TlE (B b go gm gl gn N : Nat) (clv pv : Value) (of met low nxt : Nat → Int) (count steps : Nat) (path l : List Int) (p : Nat) (ov : Value) (w : World) (e : Ending) (w' : World) : Prop :=
  e = .returned (.tuple #[]) ∧ (∃ ov', Sc w' B b go gm gl gn N clv pv ov' (ofX of l count p) met low nxt (count + 1) steps path (l.take p) ∧ ∀ k, ov'.ownBlock = some k → ov.ownBlock = some k) ∧ Fr (fun k => k = b ∨ k = go) w w'

set_option maxRecDepth 100000 in
set_option maxHeartbeats 4000000 in
theorem tell_any {B b go gm gl gn N : Nat} {clv pv : Value} {of met low nxt : Nat → Int} {count steps g c : Nat} {path l : List Int} (p f : Nat) (w : World) (h : Sc w B b go gm gl gn N clv pv (.slice (some ⟨g, 0, none⟩) l.length c) of met low nxt count steps path l) (hp : p < l.length) (hf : l[p] = (f : Int)) (hfN : f < N) (hnd : l.Nodup) (hin : ∀ x ∈ l, 0 ≤ x ∧ x < (N : Int)) (hneg : of f < 0) (hc : count ≤ 1000000) (hN : N ≤ 1000000) (hl : l.length ≤ 1000000) :
    Calls Tryd.prog 96 #[.pointer (some ⟨b, 0, none⟩), vI (f : Int)] w (TlE B b go gm gl gn N clv pv of met low nxt count steps path l p (.slice (some ⟨g, 0, none⟩) l.length c) w) := by
  have HIN : Hd (∀ x ∈ l, 0 ≤ x ∧ x < (N : Int)) := hin
  have HND : Hd (∀ r, p < r → (f : Int) ∉ l.drop r) := fun r hr hm => by
    obtain ⟨j, hj, e⟩ := List.getElem_of_mem hm
    rw [List.getElem_drop] at e
    exact (List.pairwise_iff_getElem.1 hnd) p (r + j) hp (by rw [List.length_drop] at hj; omega) (by omega) (hf.trans e.symm)
  have HPD : Hd ((f : Int) ∈ l.drop p) := by unfold Hd; rw [List.drop_eq_getElem_cons hp, hf]; simp
  have HS0 : Hd (Sc w B b go gm gl gn N clv pv (.slice (some ⟨g, 0, none⟩) l.length c) (ofX of l count l.length) met low nxt count steps path (l.take l.length)) := by
    have e1 : ofX of l count l.length = of := by funext i; unfold ofX; simp
    rw [e1, List.take_length]
    exact h
  have HNG : Hd (of f < 0) := hneg
  have hf0 : (0 : Int) ≤ f := by omega
  have hf1 : (f : Int) < N := by omega
  clear h hin hnd hneg hf
  go_enter Tryd.func96, Tryd.ntmps96
  go_wp2_with fail
  go_loopg [] l.length (fun gg wr => ∃ (r : Nat), Hd (r = gg) ∧ p ≤ r ∧ r ≤ l.length ∧ Hd (Sc wr B b go gm gl gn N clv pv (.slice (some ⟨g, 0, none⟩) r c) (ofX of l count r) met low nxt count steps path (l.take r)) ∧ Hd (Fr (fun k => k = b ∨ k = go) w wr))
  case atStart => exact ⟨l.length, rfl, by omega, Nat.le_refl _, HS0.out, Fr.refl _ _⟩
  case round =>
    clear HS0
    obtain ⟨r, HRG, hpr, hrl, HS, HF⟩ := hrel
    have c1 : wr.cell? ⟨b, 1, none⟩ = some (.slice (some ⟨go, 0, none⟩) N N) := by rw [cell_of0 HS.out.blk]; rfl
    have c2 : wr.cell? ⟨b, 2, none⟩ = some (vI (count : Int)) := by rw [cell_of0 HS.out.blk]; rfl
    have c7 : wr.cell? ⟨b, 7, none⟩ = some (.slice (some ⟨g, 0, none⟩) r c) := by rw [cell_of0 HS.out.blk]; rfl
    have p0 := HS.out.rof.cell hfN
    by_cases hlt : p < r
    · have hneg : ofX of l count r f < 0 := by unfold ofX; rw [if_neg (HND.out r hlt)]; exact HNG.out
      obtain ⟨q, rfl⟩ : ∃ q, r = q + 1 := ⟨r - 1, by omega⟩
      have hql : q < l.length := by omega
      have hx := HIN.out _ (List.getElem_mem hql)
      obtain ⟨x, ex⟩ : ∃ x : Nat, l[q] = (x : Int) := ⟨l[q].toNat, by omega⟩
      rw [ex] at hx
      have hxN : x < N := by omega
      have hx0 : (0 : Int) ≤ x := hx.1
      have hx1 : (x : Int) < N := hx.2
      obtain ⟨-, p1⟩ : g < wr.heap.size ∧ wr.cell? ⟨g, q, none⟩ = some (vI (x : Int)) := by
        obtain ⟨a, cp, e, kk⟩ := HS.out.ro.ia
        obtain ⟨k1, o1, e1, l1, g1⟩ := kk (by intro e; have k9 := congrArg List.length e; rw [List.length_take] at k9; simp only [List.length_nil] at k9; omega)
        have hq2 : q < (l.take (q + 1)).length := by rw [List.length_take]; omega
        have := g1 q hq2
        rw [List.getElem_take, ex] at this
        injection e with e2
        rw [e1] at e2
        injection e2 with e2
        injection e2 with e3 e4
        subst e3
        rw [← e4, Nat.zero_add] at this
        exact ⟨l1, this⟩
      have p2 := HS.out.rof.cell hxN
      have z2 := HS.out.rof.frozen x
      have dn : decide (ofX of l count (q + 1) f < 0) = true := by simp [hneg]
      have j0 : (0 : Int) ≤ ((q + 1 : Nat) : Int) - 1 := by omega
      have j1 : ((q + 1 : Nat) : Int) - 1 < ((q + 1 : Nat) : Int) := by omega
      have hqi : ((q + 1 : Nat) : Int) - 1 = (q : Int) := by omega
      have hq0 : (0 : Int) ≤ q := by omega
      have hq1 : (q : Int) < ((q + 1 : Nat) : Int) := by omega
      have hq2 : (q : Int) < (q : Int) + 1 := by omega
      have HS2 : Hd (Sc (wr.setCell ⟨go, x, none⟩ (vI (count : Int))).drew B b go gm gl gn N clv pv (.slice (some ⟨g, 0, none⟩) (q + 1) c) (ofX of l count q) met low nxt count steps path (l.take (q + 1))) := by
        have k1 := (HS.out.setOf x (count : Int)).stay (Fr.refl _ _).drew
        rw [ofX_step of l count q x hql ex] at k1
        exact k1
      have HF2 : Hd (Fr (fun k => k = b ∨ k = go) w (wr.setCell ⟨go, x, none⟩ (vI (count : Int))).drew) := (HF.out.trans ((setCell_fr wr go x _).mono (fun _ _ e => Or.inr e))).drew
      clear hx ex hql hneg
      go_upto_region 2 with fail
      refine wp_region_still_tail 16 mixed (by kernel_rfl) ?_
      simp only [List.take_succ_cons, List.take_zero, List.drop_succ_cons, List.drop_zero]
      repeat still_step
      refine wpStill_nil ?_
      obtain ⟨w2, hw2⟩ : ∃ w2, w2 = (wr.setCell ⟨go, x, none⟩ (vI (count : Int))).drew := ⟨_, rfl⟩
      have HW2 : Hd (w2 = (wr.setCell ⟨go, x, none⟩ (vI (count : Int))).drew) := hw2
      rw [← hw2] at HS2 HF2
      clear hw2
      go_upto_region 3 with fail
      rw [← HW2.out]
      clear HW2 c1 c2 c7 p0 p1 p2 z2
      have c7 : w2.cell? ⟨b, 7, none⟩ = some (.slice (some ⟨g, 0, none⟩) (q + 1) c) := by rw [cell_of0 HS2.out.blk]; rfl
      have z7 : w2.frozen? ⟨b, 7, none⟩ = false := frozen_of HS2.out.blk 7
      have hcut : IOwn w2 B (.slice (some ⟨g, 0, none⟩) q c) (l.take q) := by
        have k1 := iown_cut HS2.out.ro (m := q) (by omega) (by rw [List.length_take]; omega)
        rw [List.take_take, Nat.min_eq_left (by omega)] at k1
        exact k1
      have hqc : q ≤ c := by
        rcases hcut.2 with ⟨e, -⟩ | ⟨g', cap', cur, e, -, -, k3, -⟩
        · cases e
        · injection e with _ _ e3
          rw [List.length_take] at k3
          omega
      have hqc1 : (q : Int) ≤ c := by omega
      have HS3 : Hd (Sc (w2.setCell ⟨b, 7, none⟩ (.slice (some ⟨g, 0, none⟩) q c)) B b go gm gl gn N clv pv (.slice (some ⟨g, 0, none⟩) q c) (ofX of l count q) met low nxt count steps path (l.take q)) := HS2.out.setOpen hcut (fun k e => e)
      have HF3 : Hd (Fr (fun k => k = b ∨ k = go) w (w2.setCell ⟨b, 7, none⟩ (.slice (some ⟨g, 0, none⟩) q c))) := HF2.out.trans ((setCell_fr w2 b 7 _).mono (fun _ _ e => Or.inl e))
      clear hcut hqc
      go_wp2_with fail
      go_roundg q
      case measure => have := HRG.out; omega
      case rel => exact ⟨q, rfl, by omega, by omega, HS3.out, HF3.out⟩
    · have hrp : r = p := by omega
      subst hrp
      have hnn : ofX of l count r f = count := by unfold ofX; rw [if_pos HPD.out]
      rw [hnn] at p0
      have dn : decide ((count : Int) < 0) = false := by simp
      have z2 : wr.frozen? ⟨b, 2, none⟩ = false := frozen_of HS.out.blk 2
      have HE : Hd (TlE B b go gm gl gn N clv pv of met low nxt count steps path l r (.slice (some ⟨g, 0, none⟩) l.length c) w (.returned (.tuple #[])) (wr.setCell ⟨b, 2, none⟩ (vI ((count + 1 : Nat) : Int)))) := ⟨rfl, ⟨_, HS.out.setCount, fun k e => e⟩, HF.out.trans ((setCell_fr wr b 2 _).mono (fun _ _ e => Or.inl e))⟩
      have ecn : (count : Int) + 1 = ((count + 1 : Nat) : Int) := by omega
      generalize ((count + 1 : Nat) : Int) = cn at *
      clear hnn c7
      go_wp2_with fail
      go_end0
      exact HE.out
end Go.Proofs.YtjmbfjaahadbhaaDoor
