import Derived.Test.YtmdlebolmhnhaabY1
namespace Go.Proofs.Ytmdlebolmhnhaab
open Go.RowKit (wrap32 wrap64)
open Go.Maps (Keyed)
set_option linter.unusedVariables false
set_option linter.unusedSimpArgs false

/-- So many of each at most. -/
structure RB (N : Nat) (r : RA) : Prop where
  cells : r.cells.length ≤ N
  frs : r.frs.length ≤ N
  each : ∀ l ∈ r.frs, l.length ≤ N
  gl : r.gl.length ≤ 16

theorem RB.mono {N M : Nat} {r : RA} (h : RB N r) (hNM : N ≤ M) : RB M r := ⟨Nat.le_trans h.cells hNM, Nat.le_trans h.frs hNM, fun l hl => Nat.le_trans (h.each l hl) hNM, h.gl⟩

theorem sorted_len : ∀ (l : List Nat) (lo hi : Nat), l.Pairwise (· < ·) → (∀ p ∈ l, lo ≤ p ∧ p ≤ hi) → l.length ≤ hi + 1 - lo
  | [], _, _, _, _ => Nat.zero_le _
  | x :: l, lo, hi, hp, hb => by
    obtain ⟨h1, h2⟩ := List.pairwise_cons.1 hp
    have hx := hb x List.mem_cons_self
    have := sorted_len l (x + 1) hi h2 (fun p hm => ⟨h1 p hm, (hb p (List.mem_cons_of_mem _ hm)).2⟩)
    simp only [List.length_cons]
    omega

theorem Rel.fine {N : Nat} {a : Abs} {r : RA} (h : Rel a r) (hb : RB N r) : Fine N a := by
  have hp : ∀ p ∈ a.pss, 1 ≤ p ∧ p ≤ N := fun p hp => by
    obtain ⟨i, c, t, l, rfl, hc, -⟩ := h.pis p hp
    have := (List.getElem?_eq_some_iff.1 hc).1
    have := hb.cells
    omega
  refine ⟨by rw [h.made]; exact hb.cells, by rw [h.frl]; exact hb.frs, ?_, fun p hm => (hp p hm).2⟩
  have := sorted_len a.pss 1 N h.psort hp
  omega

theorem RB.store {N : Nat} {r : RA} (h : RB N r) (v : Val) (f : Int) (x : Val) : RB N (rstoreX r v f x).1 := by
  unfold rstoreX
  split
  · exact h
  · split
    · exact h
    · split
      · exact h
      · exact ⟨by simpa using h.cells, h.frs, h.each, h.gl⟩
theorem RB.setGlobal {N : Nat} {r : RA} (h : RB N r) (n : Int) (x : Val) : RB N (rsetGlobalX r n x).1 := by
  unfold rsetGlobalX
  split
  · split
    · exact h
    · exact ⟨h.cells, h.frs, h.each, by simpa using h.gl⟩
  · exact h
theorem RB.new (N n : Nat) (hn : n ≤ 16) : RB N (rnewX n) := ⟨by simp [rnewX], by simp [rnewX], fun l hl => by simp [rnewX] at hl, by simpa [rnewX] using hn⟩
theorem RB.push {N : Nat} {r : RA} (h : RB N r) : RB (N + 1) { r with frs := r.frs ++ [[]] } :=
  ⟨by have := h.cells; show r.cells.length ≤ _; omega, by have := h.frs; simp; omega, fun l hl => by
    rcases List.mem_append.1 hl with hl | hl
    · have := h.each l hl; omega
    · simp at hl; subst hl; simp, h.gl⟩
theorem goAll_len2 : ∀ (l : List Nat) (cs : List CellR), (goAll l cs).length = cs.length
  | [], _ => rfl
  | n :: l, cs => by
    show (goAll l (goStep cs n)).length = _
    rw [goAll_len2 l, goStep_len]
theorem RB.pop {N : Nat} {r : RA} (h : RB N r) : RB N (rpopX r).1 := by
  unfold rpopX
  split
  · exact h
  · exact ⟨by show (goAll _ r.cells).length ≤ N; rw [goAll_len2]; exact h.cells, by show r.frs.dropLast.length ≤ N; have := h.frs; rw [List.length_dropLast]; omega, fun l hl => h.each l (List.dropLast_subset _ hl), h.gl⟩
theorem RB.make {N : Nat} {r : RA} (h : RB N r) (n : Int) (heap : Bool) : RB (N + 1) (rmakeX r n heap).1 := by
  unfold rmakeX
  split
  · exact h.mono (by omega)
  · split
    · exact h.mono (by omega)
    · refine ⟨by have := h.cells; simp; omega, by have := h.frs; simp; omega, fun l hl => ?_, h.gl⟩
      rcases List.mem_or_eq_of_mem_set hl with hl | rfl
      · have := h.each l hl; omega
      · have : (r.frs.getD (r.frs.length - 1) []).length ≤ N := by
          rw [List.getD_eq_getElem?_getD]
          cases e : r.frs[r.frs.length - 1]? with
          | none => simp
          | some l => exact h.each l (List.mem_of_getElem? e)
        simp
        simpa using this
theorem RB.drop {N : Nat} {r : RA} (h : RB N r) (zs : List Int) : RB N (rdropX r zs).1 := by
  unfold rdropX
  split
  · exact ⟨by show (dropAll zs r.cells).length ≤ N; rw [dropAll_len]; exact h.cells, h.frs, h.each, h.gl⟩
  · exact h

theorem live_len {N : Nat} {a : Abs} {r : RA} (h : Rel a r) (hb : RB N r) : (liveX a).length ≤ N := by
  rw [h.live, List.length_map]
  exact Nat.le_trans (rliveL_len r _) hb.cells

/-- A list that is lengthened beside the world: where it may lie. -/
def Gr (w0 wS w : World) (l : Value) (wb : Nat) (pg : Nat → Gh) (rg : Nat → RG) (lv mv : Value) (us us' : List (Value × List Int)) (u : Value) (xs : List Int) : Prop :=
  w.ownsRow w0.heap.size 3 1 u xs.length (xs.map vI) ∧ ∀ j, u.ownBlock = some j → Own0 wb pg rg j ∧ lv.ownBlock ≠ some j ∧ mv.ownBlock ≠ some j ∧ (l.ownBlock = some j ∨ wS.heap.size ≤ j) ∧ ∀ p, p ∈ us ∨ p ∈ us' → p.1.ownBlock = some j → p.2.length ≤ xs.length

section
variable {w0 wS w w6 : World} {l : Value} {wb : Nat} {pb rb : Nat → Nat} {pg : Nat → Gh} {rg : Nat → RG} {pa : Nat → Abs} {ra : Nat → RA} {lv mv : Value} {us us' : List (Value × List Int)}

theorem Wq.longer (h : Wq w0 w wb pb rb pg rg pa ra lv mv us us') (hs : wS.heap.size ≤ w.heap.size) {u : Value} {xs : List Int} {x : Int} {g6 cap6 : Nat} (hu : Gr w0 wS w l wb pg rg lv mv us us' u xs)
    (hown : w6.ownsRow w0.heap.size 3 1 (.slice (some ⟨g6, 0, none⟩) (xs.length + 1) cap6) (xs.length + 1) (xs.map vI ++ [vI x])) (hgrow : w.grownBy w6 u.ownBlock) (hat : u.ownBlock = some g6 ∨ w.heap.size ≤ g6)
    (keeps : ∀ (B k cap0 g0 : Nat) (ys : List Value), w.ownsRow B 3 1 (.slice (some ⟨g0, 0, none⟩) k cap0) k ys → (u.ownBlock = some g0 → k ≤ xs.length) → w6.ownsRow B 3 1 (.slice (some ⟨g0, 0, none⟩) k cap0) k ys) :
    Wq w0 w6 wb pb rb pg rg pa ra lv mv us us' ∧ Gr w0 wS w6 l wb pg rg lv mv us us' (.slice (some ⟨g6, 0, none⟩) (xs.length + 1) cap6) (xs ++ [x]) ∧
      ∀ (u' : Value) (ys : List Int), Gr w0 wS w l wb pg rg lv mv us us' u' ys → (∀ j, u.ownBlock = some j → u'.ownBlock ≠ some j) → Gr w0 wS w6 l wb pg rg lv mv us us' u' ys ∧ ∀ j, (Value.slice (some ⟨g6, 0, none⟩) (xs.length + 1) cap6).ownBlock = some j → u'.ownBlock ≠ some j := by
  have keepRow : ∀ (v : Value) (n : Nat) (ys : List Value), w.ownsRow w0.heap.size 3 1 v n ys → (∀ j, v.ownBlock = some j → u.ownBlock = some j → n ≤ xs.length) → w6.ownsRow w0.heap.size 3 1 v n ys := fun v n ys hr hj => by
    rcases hr.2 with h2 | ⟨g, cap, cur, rfl, h3⟩
    · exact ⟨hr.1, Or.inl h2⟩
    · exact keeps w0.heap.size n cap g ys hr (hj g rfl)
  refine ⟨h.upd (grown_fr hgrow) (fun k e => ?_) (fun p hp => ?_) (fun p hp => ?_), ⟨?_, fun j e => ?_⟩, fun u' ys hu' hap => ⟨⟨?_, hu'.2⟩, fun j e e' => ?_⟩⟩
  · obtain ⟨a1, a2, a3, -⟩ := hu.2 k e
    exact ⟨a1, a2, a3, (World.ownsRow.lt hu.1 k e).1⟩
  · exact keepRow _ _ _ (h.ll.inn p hp) (fun j e1 e2 => (hu.2 j e2).2.2.2.2 p (Or.inl hp) e1)
  · exact keepRow _ _ _ (h.lm.inn p hp) (fun j e1 e2 => (hu.2 j e2).2.2.2.2 p (Or.inr hp) e1)
  · rw [List.length_append, List.map_append]
    exact hown
  · have e : g6 = j := by cases e; rfl
    subst e
    rcases hat with e | e
    · obtain ⟨a1, a2, a3, a4, a5⟩ := hu.2 g6 e
      exact ⟨a1, a2, a3, a4, fun p hp ep => by have := a5 p hp ep; rw [List.length_append]; omega⟩
    · refine ⟨⟨fun e2 => ?_, fun i hi => h.zero i hi g6 e⟩, fun e2 => ?_, fun e2 => ?_, Or.inr (by omega), fun p hp ep => ?_⟩
      · have := heap_lt h.blk; omega
      · have := (World.ownsRow.lt h.ll.row g6 e2).2; omega
      · have := (World.ownsRow.lt h.lm.row g6 e2).2; omega
      · rcases hp with hp | hp
        · have := (World.ownsRow.lt (h.ll.inn p hp) g6 ep).2; omega
        · have := (World.ownsRow.lt (h.lm.inn p hp) g6 ep).2; omega
  · exact keepRow _ _ _ hu'.1 (fun j e1 e2 => absurd e1 (hap j e2))
  · have e : g6 = j := by cases e; rfl
    subst e
    rcases hat with e | e
    · exact hap g6 e e'
    · have := (World.ownsRow.lt hu'.1 g6 e').2; omega

theorem Gr.fr {S : Nat → Prop} {w' : World} {u : Value} {xs : List Int} (h : Gr w0 wS w l wb pg rg lv mv us us' u xs) (f : Fr S w w') (hS : ∀ j, u.ownBlock = some j → ¬ S j) : Gr w0 wS w' l wb pg rg lv mv us us' u xs := ⟨ownsRow_fr h.1 f hS, h.2⟩
end

/-- How it stands between two calls of a script. -/
def St (w0 : World) (wb N : Nat) (w : World) : Prop :=
  ∃ (pb rb : Nat → Nat) (pg : Nat → Gh) (rg : Nat → RG) (pa : Nat → Abs) (ra : Nat → RA) (lv mv : Value) (us us' : List (Value × List Int)), Wd w0 w wb pb rb pg rg pa ra lv mv us us' ∧ (∀ i, i < 2 → Rel (pa i) (ra i) ∧ RB N (ra i)) ∧ us.length ≤ 4 * N ∧ ∀ p ∈ us, p.2.length ≤ 10000000

theorem St.mono {w0 w : World} {wb N M : Nat} (h : St w0 wb N w) (hNM : N ≤ M) : St w0 wb M w := by
  obtain ⟨pb, rb, pg, rg, pa, ra, lv, mv, us, us', h1, h2, h3, h4⟩ := h
  exact ⟨pb, rb, pg, rg, pa, ra, lv, mv, us, us', h1, fun i hi => ⟨(h2 i hi).1, (h2 i hi).2.mono hNM⟩, by omega, h4⟩

theorem at1_all {α β : Type} {f : Nat → α} {g : Nat → β} {K : Nat} {x : α} {y : β} {P : α → β → Prop} (h : ∀ i, i < 2 → P (f i) (g i)) (hx : P x y) : ∀ i, i < 2 → P (at1 f K x i) (at1 g K y i) := fun i hi => by
  by_cases e : i = K
  · subst e
    rw [at1_self, at1_self]
    exact hx
  · rw [at1_ne _ _ e, at1_ne _ _ e]
    exact h i hi

theorem St.step {w0 w' : World} {wb N K : Nat} {pb rb : Nat → Nat} {pg : Nat → Gh} {rg : Nat → RG} {pa : Nat → Abs} {ra : Nat → RA} {lv mv : Value} {us us' : List (Value × List Int)} {a2 : Abs} {r2 : RA} (_hK : K < 2) (hW : Wd w0 w' wb pb rb pg rg (at1 pa K a2) (at1 ra K r2) lv mv us us')
    (hR : ∀ i, i < 2 → Rel (pa i) (ra i) ∧ RB N (ra i)) (h2 : Rel a2 r2) (hb2 : RB (N + 1) r2) (hU : us.length ≤ 4 * N) (hP : ∀ p ∈ us, p.2.length ≤ 10000000) : St w0 wb (N + 1) w' :=
  ⟨pb, rb, pg, rg, _, _, lv, mv, us, us', hW, at1_all (P := fun a r => Rel a r ∧ RB (N + 1) r) (fun i hi => ⟨(hR i hi).1, (hR i hi).2.mono (by omega)⟩) ⟨h2, hb2⟩, by omega, hP⟩

/-- A block beside: it is none of the memories', of the lists', of the world's. -/
structure Pt (ob : Nat) (x : Obj) (wb : Nat) (pg : Nat → Gh) (rg : Nat → RG) (lv mv : Value) (us us' : List (Value × List Int)) (w : World) : Prop where
  a : w.heap[ob]? = some x
  b : Own0 wb pg rg ob ∧ ¬ LsB lv us ob ∧ ¬ LsB mv us' ob

section
variable {w w' : World} {ob : Nat} {x : Obj} {wb : Nat} {pg : Nat → Gh} {rg : Nat → RG} {lv mv : Value} {us us' : List (Value × List Int)}
theorem Pt.write {S : Nat → Prop} (h : Pt ob x wb pg rg lv mv us us' w) (f : Fr S w w') (hS : ¬ S ob) : Pt ob x wb pg rg lv mv us us' w' := ⟨(f.block ob (heap_lt h.a) hS).trans h.a, h.b⟩
theorem Pt.keep (h : Pt ob x wb pg rg lv mv us us' w) (f : Fr (fun _ => False) w w') : Pt ob x wb pg rg lv mv us us' w' := h.write f (fun e => e)
theorem Pt.pcall (h : Pt ob x wb pg rg lv mv us us' w) {i : Nat} (hi : i < 2) {g2 : Gh} (f : Fr (fun j => (pg i).own j ≠ 0) w w') (e : Ext w.heap.size (pg i) g2) : Pt ob x wb (at1 pg i g2) rg lv mv us us' w' := by
  refine ⟨(f.block ob (heap_lt h.a) (fun e => e (h.b.1.2 i hi).1)).trans h.a, ⟨h.b.1.1, fun j hj => ⟨?_, (h.b.1.2 j hj).2⟩⟩, h.b.2⟩
  by_cases ej : j = i
  · subst ej; rw [at1_self, e ob (heap_lt h.a)]; exact (h.b.1.2 j hj).1
  · rw [at1_ne _ _ ej]; exact (h.b.1.2 j hj).1
theorem Pt.rcall (h : Pt ob x wb pg rg lv mv us us' w) {i : Nat} (hi : i < 2) {g2 : RG} (f : Fr (fun j => (rg i).own j ≠ 0) w w') (e : RExt w.heap.size (rg i) g2) : Pt ob x wb pg (at1 rg i g2) lv mv us us' w' := by
  refine ⟨(f.block ob (heap_lt h.a) (fun e => e (h.b.1.2 i hi).2)).trans h.a, ⟨h.b.1.1, fun j hj => ⟨(h.b.1.2 j hj).1, ?_⟩⟩, h.b.2⟩
  by_cases ej : j = i
  · subst ej; rw [at1_self, e ob (heap_lt h.a)]; exact (h.b.1.2 j hj).2
  · rw [at1_ne _ _ ej]; exact (h.b.1.2 j hj).2
theorem Pt.kept {lv2 mv2 l : Value} {us2 us2' : List (Value × List Int)} (h : Pt ob x wb pg rg lv mv us us' w) (f : Fr (fun j => j = wb ∨ LsB lv us j ∨ LsB mv us' j ∨ l.ownBlock = some j) w w') (hl : l.ownBlock ≠ some ob) (hS : ∀ k, LsB lv2 us2 k ∨ LsB mv2 us2' k → LsB lv us k ∨ LsB mv us' k ∨ l.ownBlock = some k ∨ w.heap.size ≤ k) : Pt ob x wb pg rg lv2 mv2 us2 us2' w' := by
  have key : ¬ (LsB lv2 us2 ob ∨ LsB mv2 us2' ob) := fun e => by
    rcases hS ob e with e | e | e | e
    · exact h.b.2.1 e
    · exact h.b.2.2 e
    · exact hl e
    · have := heap_lt h.a; omega
  refine ⟨(f.block ob (heap_lt h.a) (fun e => ?_)).trans h.a, h.b.1, fun e => key (Or.inl e), fun e => key (Or.inr e)⟩
  rcases e with e | e | e | e
  · exact h.b.1.1 e
  · exact h.b.2.1 e
  · exact h.b.2.2 e
  · exact hl e
end

/-- How it stands within a call of a script. -/
def StP (w0 : World) (wb N ob : Nat) (x : Obj) (w : World) : Prop :=
  ∃ (pb rb : Nat → Nat) (pg : Nat → Gh) (rg : Nat → RG) (pa : Nat → Abs) (ra : Nat → RA) (lv mv : Value) (us us' : List (Value × List Int)), Wd w0 w wb pb rb pg rg pa ra lv mv us us' ∧ (∀ i, i < 2 → Rel (pa i) (ra i) ∧ RB N (ra i)) ∧ us.length ≤ 4 * N ∧ (∀ p ∈ us, p.2.length ≤ 10000000) ∧ Pt ob x wb pg rg lv mv us us' w

theorem StP.st {w0 w : World} {wb N ob : Nat} {x : Obj} (h : StP w0 wb N ob x w) : St w0 wb N w := by
  obtain ⟨pb, rb, pg, rg, pa, ra, lv, mv, us, us', h1, h2, h3, h4, -⟩ := h
  exact ⟨pb, rb, pg, rg, pa, ra, lv, mv, us, us', h1, h2, h3, h4⟩
theorem StP.blk {w0 w : World} {wb N ob : Nat} {x : Obj} (h : StP w0 wb N ob x w) : w.heap[ob]? = some x := by
  obtain ⟨pb, rb, pg, rg, pa, ra, lv, mv, us, us', -, -, -, -, h⟩ := h
  exact h.a
theorem StP.keep {w0 w w' : World} {wb N ob : Nat} {x : Obj} (h : StP w0 wb N ob x w) (f : Fr (fun _ => False) w w') : StP w0 wb N ob x w' := by
  obtain ⟨pb, rb, pg, rg, pa, ra, lv, mv, us, us', h1, h2, h3, h4, h5⟩ := h
  exact ⟨pb, rb, pg, rg, pa, ra, lv, mv, us, us', h1.keep f, h2, h3, h4, h5.keep f⟩
theorem StP.mono {w0 w : World} {wb N M ob : Nat} {x : Obj} (h : StP w0 wb N ob x w) (hNM : N ≤ M) : StP w0 wb M ob x w := by
  obtain ⟨pb, rb, pg, rg, pa, ra, lv, mv, us, us', h1, h2, h3, h4, h5⟩ := h
  exact ⟨pb, rb, pg, rg, pa, ra, lv, mv, us, us', h1, fun i hi => ⟨(h2 i hi).1, (h2 i hi).2.mono hNM⟩, by omega, h4, h5⟩
theorem St.keep {w0 w w' : World} {wb N : Nat} (h : St w0 wb N w) (f : Fr (fun _ => False) w w') : St w0 wb N w' := by
  obtain ⟨pb, rb, pg, rg, pa, ra, lv, mv, us, us', h1, h2, h3, h4⟩ := h
  exact ⟨pb, rb, pg, rg, pa, ra, lv, mv, us, us', h1.keep f, h2, h3, h4⟩
theorem St.box {w0 w : World} {wb N : Nat} (h : St w0 wb N w) (x : Obj) : StP w0 wb N w.heap.size x (w.alloc x) := by
  obtain ⟨pb, rb, pg, rg, pa, ra, lv, mv, us, us', h1, h2, h3, h4⟩ := h
  refine ⟨pb, rb, pg, rg, pa, ra, lv, mv, us, us', h1.keep (Fr.alloc (Fr.refl _ w) _), h2, h3, h4, heap_alloc_last w x, ⟨fun e => ?_, fun i hi => ⟨h1.zero.1 i hi _ (Nat.le_refl _), h1.zero.2 i hi _ (Nat.le_refl _)⟩⟩, fun e => ?_, fun e => ?_⟩
  · have := h1.ltW (Or.inl e); omega
  · have := h1.ltW (Or.inr (Or.inl e)); omega
  · have := h1.ltW (Or.inr (Or.inr e)); omega

theorem StP.step {w0 w' : World} {wb N K ob : Nat} {x : Obj} {pb rb : Nat → Nat} {pg : Nat → Gh} {rg : Nat → RG} {pa : Nat → Abs} {ra : Nat → RA} {lv mv : Value} {us us' : List (Value × List Int)} {a2 : Abs} {r2 : RA} (_hK : K < 2) (hW : Wd w0 w' wb pb rb pg rg (at1 pa K a2) (at1 ra K r2) lv mv us us')
    (hR : ∀ i, i < 2 → Rel (pa i) (ra i) ∧ RB N (ra i)) (h2 : Rel a2 r2) (hb2 : RB (N + 1) r2) (hU : us.length ≤ 4 * N) (hP : ∀ p ∈ us, p.2.length ≤ 10000000) (hT : Pt ob x wb pg rg lv mv us us' w') : StP w0 wb (N + 1) ob x w' :=
  ⟨pb, rb, pg, rg, _, _, lv, mv, us, us', hW, at1_all (P := fun a r => Rel a r ∧ RB (N + 1) r) (fun i hi => ⟨(hR i hi).1, (hR i hi).2.mono (by omega)⟩) ⟨h2, hb2⟩, by omega, hP, hT⟩

/-- As St.step, with the same bound. -/
theorem St.step0 {w0 w' : World} {wb N K : Nat} {pb rb : Nat → Nat} {pg : Nat → Gh} {rg : Nat → RG} {pa : Nat → Abs} {ra : Nat → RA} {lv mv : Value} {us us' : List (Value × List Int)} {a2 : Abs} {r2 : RA} (_hK : K < 2) (hW : Wd w0 w' wb pb rb pg rg (at1 pa K a2) (at1 ra K r2) lv mv us us')
    (hR : ∀ i, i < 2 → Rel (pa i) (ra i) ∧ RB N (ra i)) (h2 : Rel a2 r2) (hb2 : RB N r2) (hU : us.length ≤ 4 * N) (hP : ∀ p ∈ us, p.2.length ≤ 10000000) : St w0 wb N w' :=
  ⟨pb, rb, pg, rg, _, _, lv, mv, us, us', hW, at1_all (P := fun a r => Rel a r ∧ RB N r) hR ⟨h2, hb2⟩, hU, hP⟩

end Go.Proofs.Ytmdlebolmhnhaab
