import Derived.Test.YtjmbfjaahadbhaaGreatDoorQIfJ
import Derived.Test.YtjmbfjaahadbhaaGreatDoorQOcJ
import Derived.Test.YtjmbfjaahadbhaaGreatDoorQRaJ
import Derived.StillTail
import Derived.Deep.RegionHeld
set_option linter.unusedVariables false
set_option linter.unusedSimpArgs false
namespace Go.Proofs.YtjmbfjaahadbhaaGreatDoor
open Go.RowKit (wrap32 wrap64)

/-- The values of a list's places, by what stands there. -/
theorem by_name {l : List Nat} {us : List Value} (hn : l.Nodup) (hl : us.length = l.length) : ∃ U : Nat → Value, us = l.map U := by
  refine ⟨fun f => us.getD (l.idxOf f) undef, ?_⟩
  apply List.ext_getElem
  · rw [List.length_map, hl]
  · intro i h1 h2
    rw [List.getElem_map, hn.idxOf_getElem i (by omega)]
    simp [h1]
/-- Where a function's component stands as far as k of them are numbered. -/
def whX (of : Nat → Nat) (k x : Nat) : Int := if of x < k then (of x : Int) else -1
theorem whX_ge {of : Nat → Nat} {k x : Nat} : 0 ≤ whX of k x ↔ of x < k := by unfold whX; split <;> omega
/-- The same while component k is being numbered. -/
def whM (of : Nat → Nat) (k : Nat) (d : List Nat) (x : Nat) : Int := if x ∈ d then (k : Int) else whX of k x
theorem whM_nil (of : Nat → Nat) (k : Nat) : whM of k [] = whX of k := by funext x; simp [whM]
theorem whM_all {N k : Nat} {of : Nat → Nat} {x : Nat} (hx : x < N) : whM of k (memX N of k) x = whX of (k + 1) x := by
  unfold whM whX
  by_cases e : of x = k
  · rw [if_pos (mem_memX.2 ⟨hx, e⟩), if_pos (by omega), e]
  · rw [if_neg (fun h => e (mem_memX.1 h).2)]
    by_cases e2 : of x < k
    · rw [if_pos e2, if_pos (by omega)]
    · rw [if_neg e2, if_neg (by omega)]
/-- Numbers in a row of one's own, one of them written over. -/
theorem IOwn.put {w : World} {B g cap N x : Nat} {f : Nat → Int} (h : IOwn w B (.slice (some ⟨g, 0, none⟩) N cap) ((List.range N).map f)) (hx : x < N) (z : Int) :
    IOwn (w.setCell ⟨g, x, none⟩ (vI z)) B (.slice (some ⟨g, 0, none⟩) N cap) ((List.range N).map (fun y => if y = x then z else f y)) := by
  have e : ((List.range N).map f).length = N := by simp
  unfold IOwn at h ⊢
  rw [e] at h
  rw [show ((List.range N).map (fun y => if y = x then z else f y)).length = N by simp]
  have k := row_set (j := x) h (vI z)
  have e2 : (((List.range N).map f).map vI).set x (vI z) = ((List.range N).map (fun y => if y = x then z else f y)).map vI := by
    apply List.ext_getElem
    · simp
    · intro i h1 h2
      rw [List.getElem_set]
      simp only [List.getElem_map, List.getElem_range]
      by_cases e3 : i = x
      · rw [if_pos e3.symm, if_pos e3]
      · rw [if_neg (fun e => e3 e.symm), if_neg e3]
  rw [← e2]
  exact k.1
theorem IOwn.melt {w : World} {B g cap N x : Nat} {f : Nat → Int} (h : IOwn w B (.slice (some ⟨g, 0, none⟩) N cap) ((List.range N).map f)) : w.frozen? ⟨g, x, none⟩ = false := by
  unfold IOwn at h
  rw [show ((List.range N).map f).length = N by simp] at h
  exact (row_set (j := x) h (vI 0)).2
theorem IOwn.at {w : World} {B g cap N x : Nat} {f : Nat → Int} (h : IOwn w B (.slice (some ⟨g, 0, none⟩) N cap) ((List.range N).map f)) (hx : x < N) : w.cell? ⟨g, x, none⟩ = some (vI (f x)) := by
  obtain ⟨g', c', e, -, hc⟩ := iown_some h (by simp; omega)
  injection e with e1
  injection e1 with e1
  injection e1 with e1
  subst e1
  rw [hc x (by simp; exact hx)]
  simp

/-- The document's graph while k of its components are numbered. -/
structure Dk (N : Nat) (of : Nat → Nat) (U : Nat → Value) (wT : World) (b wg wc B9 : Nat) (cv : Value) (wx : World) (k : Nat) (wf : Nat → Int) (lv v7 : Value) (l7 : List Nat) : Prop where
  box : wx.heap[b]? = some (.cells #[lv, .slice (some ⟨wg, 0, none⟩) N wc, cv] 54)
  wh : IOwn wx (b + 1) (.slice (some ⟨wg, 0, none⟩) N wc) ((List.range N).map wf)
  l : wx.ownsRow wT.heap.size 25 1 lv k ((List.range k).map (fun c => U (lwX N of c)))
  left : wx.ownsRow B9 25 1 v7 l7.length (l7.map U)
  ap : ∀ q, lv.ownBlock = some q → v7.ownBlock ≠ some q
  fr : Fr (fun q => q = b ∨ q = wg) wT wx
section
variable {N : Nat} {of : Nat → Nat} {U : Nat → Value} {wT wx : World} {b wg wc B9 k : Nat} {cv lv v7 : Value} {wf : Nat → Int} {l7 : List Nat}
theorem Dk.stay {wy : World} (h : Dk N of U wT b wg wc B9 cv wx k wf lv v7 l7) (f : Fr (fun _ => False) wx wy) : Dk N of U wT b wg wc B9 cv wy k wf lv v7 l7 :=
  ⟨keepF h.box f, h.wh.fr f (fun _ _ e => e), ownsRow_frL h.l f (fun _ _ e => e), ownsRow_frL h.left f (fun _ _ e => e), h.ap, h.fr.then f (fun _ _ e => e.elim)⟩
theorem Dk.put {x : Nat} (h : Dk N of U wT b wg wc B9 cv wx k wf lv v7 l7) (hb : b < wg) (hB : wg < B9) (hT : B9 ≤ wT.heap.size) (hx : x < N) (z : Int) : Dk N of U wT b wg wc B9 cv (wx.setCell ⟨wg, x, none⟩ (vI z)) k (fun y => if y = x then z else wf y) lv v7 l7 := by
  have f := setCell_fr wx wg x (vI z)
  refine ⟨?_, h.wh.put hx z, ownsRow_frL h.l f (fun q e e2 => ?_), ownsRow_frL h.left f (fun q e e2 => ?_), h.ap, h.fr.then f (fun q _ e => Or.inr e)⟩
  · rw [f.block b (heap_lt h.box) (by omega)]; exact h.box
  · have e2 : q = wg := e2
    have := (World.ownsRow.lt h.l q e).1; omega
  · have e2 : q = wg := e2
    have := (World.ownsRow.lt h.left q e).1; omega
/-- A component more. -/
theorem Dk.more {w6 : World} {g cap : Nat} {x : Value} (h : Dk N of U wT b wg wc B9 cv wx k wf lv v7 l7) (hb : b < wg) (hB : wg < B9) (hT : B9 ≤ wT.heap.size) (hx : x = U (lwX N of k)) (hg : wx.grownBy w6 lv.ownBlock) (ho : w6.ownsRow wT.heap.size 25 1 (.slice (some ⟨g, 0, none⟩) (k + 1) cap) (k + 1) ((List.range k).map (fun c => U (lwX N of c)) ++ [x])) (hat : lv.ownBlock = some g ∨ g = wx.heap.size) :
    Dk N of U wT b wg wc B9 cv (w6.setCell ⟨b, 0, none⟩ (.slice (some ⟨g, 0, none⟩) (k + 1) cap)) (k + 1) wf (.slice (some ⟨g, 0, none⟩) (k + 1) cap) v7 l7 := by
  have f := grown_frL hg
  have hl := fun q e => (World.ownsRow.lt h.l q e).1
  have h7 := fun q e => (World.ownsRow.lt h.left q e)
  have hbx : w6.heap[b]? = some (.cells #[lv, .slice (some ⟨wg, 0, none⟩) N wc, cv] 54) := by
    rw [f.block b (heap_lt h.box) (fun e => by have := hl b e; omega)]; exact h.box
  have f2 := setCell_fr w6 b 0 (.slice (some ⟨g, 0, none⟩) (k + 1) cap)
  have hg2 : wT.heap.size ≤ g := (World.ownsRow.lt ho g rfl).1
  refine ⟨?_, ?_, ?_, ?_, ?_, ?_⟩
  · rw [set_of hbx]; rfl
  · refine IOwn.fr (IOwn.fr h.wh f (fun q e e2 => ?_)) f2 (fun q e e2 => ?_)
    · have e : wg = q := by injection e
      have := hl q e2; omega
    · have e2 : q = b := e2
      have e : wg = q := by injection e
      omega
  · refine ownsRow_frL ?_ f2 (fun q e e2 => ?_)
    · rw [List.range_succ, List.map_append, List.map_singleton, ← hx]; exact ho
    · have e2 : q = b := e2
      have e : g = q := by injection e
      omega
  · refine ownsRow_frL (ownsRow_frL h.left f (fun q e e2 => h.ap q e2 e)) f2 (fun q e e2 => ?_)
    have e2 : q = b := e2
    have := (h7 q e).1; omega
  · intro q e e2
    have e : g = q := by injection e
    subst e
    rcases hat with hat | hat
    · exact h.ap _ hat e2
    · have := (h7 _ e2).2; omega
  · exact (h.fr.then f (fun q hq e => by exfalso; have := hl q e; omega)).then f2 (fun q _ e => Or.inl e)
end
end Go.Proofs.YtjmbfjaahadbhaaGreatDoor
namespace Go.Proofs.YtjmbfjaahadbhaaGreatDoor

/-! ### a region that draws its order, whose last operation writes what an earlier one reads -/
section
variable {P : Program} {ops : Array Oper} {Q : Exit → Act → World → Prop} {md : Region.Mode} {S : World → Prop} {t : Nat}

/-- Whatever order is picked from here on, and S holds behind every operation but t. -/
def wpAnyT (P : Program) (md : Region.Mode) (ops : Array Oper) (Q : Exit → Act → World → Prop) (S : World → Prop) (t : Nat) : Nat → Array Bool → Act → World → Prop
  | 0, listed, a, w => Region.ready md ops listed = [] ∧ Q .normal a w
  | fuel + 1, listed, a, w =>
    (Region.ready md ops listed = [] → Q .normal a w) ∧
    ∀ i ∈ Region.ready md ops listed, wpOp P ops Q i (fun a' w' => (i ≠ t → S w') ∧ wpAnyT P md ops Q S t fuel (listed.setIfInBounds i true) a' w') a w

theorem wpAny_of_T : ∀ (fuel : Nat) (listed : Array Bool) (a : Act) (w : World), wpAnyT P md ops Q S t fuel listed a w → wpAny P md ops Q fuel listed a w
  | 0, _, _, _, h => h
  | fuel + 1, _, _, _, h => ⟨h.1, fun i hi => wpOp_mono (fun a' w' h' => wpAny_of_T fuel _ a' w' h'.2) (h.2 i hi)⟩

theorem wpAnyT_first {i : Nat} {oi : Oper} {v : Value} (hi : ops[i]? = some oi) (hsel : ∀ (j : Nat) (o : Oper) cs b, ops[j]? = some o → o.op ≠ .select cs b)
    (hQ : ∀ c a w, Q (.panic c) (a.put oi.dst v) w → Q (.panic c) a w) (ht : Region.waitsFor md ops t i = true) :
    ∀ (fuel : Nat) (listed : Array Bool) (a : Act) (w : World),
      (∀ j oj, ops[j]? = some oj → j ≠ i → listed.getD j true = false → (∀ e ∈ oj.after, Region.binds md e = true → e.on ≠ i) → oi.apart ops oj = true) →
      i ∈ Region.ready md ops listed → YieldsIf P ops S oi v a → S w →
      wpAnyT P md ops Q S t fuel (listed.setIfInBounds i true) (a.put oi.dst v) w → wpAnyT P md ops Q S t (fuel + 1) listed a w := by
  have hun : ∀ listed : Array Bool, i ∈ Region.ready md ops listed → listed.getD i false = true → False := fun listed hr h1 => by
    have h0 := (mem_ready.1 hr).1
    rcases Nat.lt_or_ge i listed.size with h' | h'
    · simp [h'] at h0 h1; rw [h0] at h1; cases h1
    · simp [Array.getElem?_eq_none h'] at h1
  have htn : ∀ listed : Array Bool, i ∈ Region.ready md ops listed → t ∉ Region.ready md ops listed := fun listed hr h => by
    obtain ⟨-, ot, hot, hall⟩ := mem_ready.1 h
    obtain ⟨ot', hot', e, he, hb, hon⟩ := Region.waitsFor_spec ht
    rw [hot] at hot'
    cases hot'
    have := hall e he hb
    rw [hon] at this
    exact hun listed hr this
  intro fuel
  induction fuel with
  | zero =>
    intro listed a w _ hr hy hS H
    refine ⟨fun h => (by rw [h] at hr; cases hr), fun j hj => ?_⟩
    by_cases hji : j = i
    · subst hji; exact hy.wpOp hi hS ⟨fun _ => hS, H⟩
    · have := ready_mono hj hji
      rw [H.1] at this
      cases this
  | succ fuel ih =>
    intro listed a w hfree hr hy hS H
    refine ⟨fun h => (by rw [h] at hr; cases hr), fun j hj => ?_⟩
    by_cases hji : j = i
    · subst hji; exact hy.wpOp hi hS ⟨fun _ => hS, H⟩
    · have hjt : j ≠ t := fun e => htn listed hr (e ▸ hj)
      have h1 := H.2 j (ready_mono hj hji)
      obtain ⟨hjun, oj, hoj, hall⟩ := mem_ready.1 hj
      have hnot : ∀ e ∈ oj.after, Region.binds md e = true → e.on ≠ i := fun e he hb heq => by
        have h1 := hall e he hb
        rw [heq] at h1
        exact hun listed hr h1
      have h2 := wpOp_putIf hoj (hfree j oj hoj hji hjun hnot) (fun cs b => hsel i oi cs b hi) (fun cs b => hsel j oj cs b hoj) hQ hy h1
      have hfree' : ∀ k ok, ops[k]? = some ok → k ≠ i → (listed.setIfInBounds j true).getD k true = false →
          (∀ e ∈ ok.after, Region.binds md e = true → e.on ≠ i) → oi.apart ops ok = true := fun k ok hk hki hun hno => by
        refine hfree k ok hk hki ?_ hno
        by_cases hjk : j = k
        · subst hjk; exact hjun
        · rw [getD_set_ne true hjk] at hun; exact hun
      refine wpOp_mono (fun a' w' h3 => ⟨h3.2.1, ih (listed.setIfInBounds j true) a' w' hfree' (ready_mono hr (Ne.symm hji)) h3.1 (h3.2.1 hjt) ?_⟩) h2
      rw [Array.setIfInBounds_comm _ _ hji]
      exact h3.2.2

/-- Take number i first. -/
theorem wpAnyT_take {i : Nat} {oi : Oper} {v : Value} {fuel : Nat} {listed : Array Bool} {a : Act} {w : World} (hi : ops[i]? = some oi)
    (hs : Region.noSelect ops = true) (hf : Region.free md ops listed i = true) (hr : (Region.ready md ops listed).contains i = true) (ht : Region.waitsFor md ops t i = true)
    (hQ : ∀ c a w, Q (.panic c) (a.put oi.dst v) w → Q (.panic c) a w) (hy : YieldsIf P ops S oi v a) (hS : S w)
    (h : wpAnyT P md ops Q S t fuel (listed.setIfInBounds i true) (a.put oi.dst v) w) : wpAnyT P md ops Q S t (fuel + 1) listed a w :=
  wpAnyT_first hi (Region.noSelect_spec hs) hQ ht fuel listed a w (Region.free_spec hi hf) (by simpa using hr) hy hS h

/-- The same, its place named. -/
theorem wpAnyT_takeAt {i : Nat} (d : Tmp) {oi : Oper} {v : Value} {fuel : Nat} {listed : Array Bool} {a : Act} {w : World} (hi : ops[i]? = some oi) (hd : oi.dst = some d)
    (hs : Region.noSelect ops = true) (hf : Region.free md ops listed i = true) (hr : (Region.ready md ops listed).contains i = true) (ht : Region.waitsFor md ops t i = true)
    (hQ : ∀ c a w, Q (.panic c) (a.put (some d) v) w → Q (.panic c) a w) (hy : YieldsIf P ops S oi v a) (hS : S w)
    (h : wpAnyT P md ops Q S t fuel (listed.setIfInBounds i true) (a.put (some d) v) w) : wpAnyT P md ops Q S t (fuel + 1) listed a w :=
  wpAnyT_take hi hs hf hr ht (by rw [hd]; exact hQ) hy hS (by rw [hd]; exact h)

/-- One alone may come up. -/
theorem wpAnyT_one {i : Nat} {o : Oper} {fuel : Nat} {listed : Array Bool} {a : Act} {w : World} (ho : ops[i]? = some o) (hr : Region.ready md ops listed = [i])
    (h : ∀ K' : Act → World → Prop, Shut (∀ a w, (i ≠ t → S w) → wpAnyT P md ops Q S t fuel (listed.setIfInBounds i true) a w → K' a w) → if Region.wanted o (yielded ops a.tmps) = true then Oper.wp P o a w K' Q else K' (a.put o.dst undef) w) : wpAnyT P md ops Q S t (fuel + 1) listed a w := by
  refine ⟨fun h0 => (by rw [hr] at h0; cases h0), fun j hj => ?_⟩
  rw [hr] at hj
  obtain rfl := List.mem_singleton.1 hj
  exact wpOp_step ho (fun K' hK => h K' (fun a w h1 h2 => hK a w ⟨h1, h2⟩))

theorem wpAnyT_done {listed : Array Bool} {a : Act} {w : World} (hr : Region.ready md ops listed = []) (h : Q .normal a w) :
    ∀ fuel, wpAnyT P md ops Q S t fuel listed a w
  | 0 => ⟨hr, h⟩
  | _ + 1 => ⟨fun _ => h, by rw [hr]; simp⟩

/-- The beginning. -/
theorem wp_region_T {id : Nat} {a : Act} {w : World} (hm : P.follows .mixedOrders = true)
    (h : wpAnyT P .any ops Q S t ops.size (Array.replicate ops.size false) a w.drew) : (Code.region id ops true).wp P Q a w :=
  wp_region_any hm (wpAny_of_T _ _ _ _ h)
end

end Go.Proofs.YtjmbfjaahadbhaaGreatDoor
