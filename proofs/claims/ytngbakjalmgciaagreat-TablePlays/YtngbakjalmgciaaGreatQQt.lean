import Derived.Test.YtngbakjalmgciaaGreatQQrJ
namespace Go.Proofs.YtngbakjalmgciaaGreat
open Go.RowKit (wrap32 wrap64)
set_option linter.unusedVariables false
set_option linter.unusedSimpArgs false

/-! ### lists that are written over in their places: they stay lists of calls, and of numbers -/
/-- A block of calls, the first m of them whole. -/
def OpB (w : World) (g m : Nat) : Prop := ∃ cs, w.heap[g]? = some (.cells cs 31) ∧ ∀ q, q < m → ∃ a b x, cs[q * 3]? = some (vI a) ∧ cs[q * 3 + 1]? = some (vI b) ∧ In64 b ∧ cs[q * 3 + 2]? = some (.string x)
structure Ko (w : World) (G gz n zn : Nat) (gi len ci : Nat → Nat) : Prop where
  row : ∃ cur, w.heap[G]? = some (.cells cur 32) ∧ ∀ i, i < n → cur[i]? = some (.slice (some ⟨gi i, 0, none⟩) (len i) (ci i))
  blk : ∀ i, i < n → OpB w (gi i) (len i)
  zs : ∃ cur, w.heap[gz]? = some (.cells cur 3) ∧ ∀ k, k < zn → ∃ z, cur[k]? = some (vI z)
theorem Ko.drew {w : World} {G gz n zn : Nat} {gi len ci : Nat → Nat} (h : Ko w G gz n zn gi len ci) : Ko w.drew G gz n zn gi len ci := ⟨h.row, h.blk, h.zs⟩
theorem set_other {w : World} {g : Nat} {cs : Array Value} {t t' : TypeId} {k : Nat} {cur : Array Value} (h : w.heap[g]? = some (.cells cs t)) (h' : w.heap[k]? = some (.cells cur t')) (ht : t ≠ t') (o : Nat) (u : Value) : (w.setCell ⟨g, o, none⟩ u).heap[k]? = some (.cells cur t') := by
  have hne : k ≠ g := fun e => by
    subst e
    rw [h] at h'
    injection h' with h'
    injection h' with _ e _
    exact ht e
  rw [Go.RowKit.Below.heap_setCell _ _ _ _ hne]
  exact h'
/-- A cell of a call is written over: its kind or its key. -/
theorem Ko.setOp {w : World} {G gz n zn : Nat} {gi len ci : Nat → Nat} (h : Ko w G gz n zn gi len ci) {i q e : Nat} (hi : i < n) (hq : q < len i) (he : e = 0 ∨ e = 1) (b : Int) (hb : e = 1 → In64 b) : Ko (w.setCell ⟨gi i, q * 3 + e, none⟩ (vI b)) G gz n zn gi len ci := by
  obtain ⟨cs, hcs, hc⟩ := h.blk i hi
  obtain ⟨cur, hr, hr2⟩ := h.row
  obtain ⟨cz, hz, hz2⟩ := h.zs
  refine ⟨⟨cur, set_other hcs hr (by decide) _ _, hr2⟩, fun k hk => ?_, ⟨cz, set_other hcs hz (by decide) _ _, hz2⟩⟩
  obtain ⟨ck, hck, hck2⟩ := h.blk k hk
  by_cases ek : gi k = gi i
  · rw [ek] at hck ⊢
    refine ⟨_, set_of hck _ _, fun p hp => ?_⟩
    obtain ⟨a0, b0, x0, p0, p1, p2, p3⟩ := hck2 p hp
    have hsz : ∀ (o : Nat), (∃ u, ck[o]? = some u) → o < ck.size := fun o ⟨u, hu⟩ => (Array.getElem?_eq_some_iff.1 hu).1
    have l0 := hsz _ ⟨_, p0⟩
    have l1 := hsz _ ⟨_, p1⟩
    have hset : ∀ o, (ck.setIfInBounds (q * 3 + e) (vI b))[o]? = if q * 3 + e = o then (if o < ck.size then some (vI b) else none) else ck[o]? := fun o => by
      rw [Array.getElem?_setIfInBounds]
      by_cases eo : q * 3 + e = o
      · rw [if_pos eo, if_pos eo, eo]
      · rw [if_neg eo, if_neg eo]
    rcases he with rfl | rfl
    · by_cases eq : q = p
      · subst eq
        refine ⟨b, b0, x0, ?_, ?_, p2, ?_⟩
        · rw [hset, if_pos (by omega), if_pos l0]
        · rw [hset, if_neg (by omega)]; exact p1
        · rw [hset, if_neg (by omega)]; exact p3
      · refine ⟨a0, b0, x0, ?_, ?_, p2, ?_⟩
        · rw [hset, if_neg (by omega)]; exact p0
        · rw [hset, if_neg (by omega)]; exact p1
        · rw [hset, if_neg (by omega)]; exact p3
    · by_cases eq : q = p
      · subst eq
        refine ⟨a0, b, x0, ?_, ?_, hb rfl, ?_⟩
        · rw [hset, if_neg (by omega)]; exact p0
        · rw [hset, if_pos (by omega), if_pos l1]
        · rw [hset, if_neg (by omega)]; exact p3
      · refine ⟨a0, b0, x0, ?_, ?_, p2, ?_⟩
        · rw [hset, if_neg (by omega)]; exact p0
        · rw [hset, if_neg (by omega)]; exact p1
        · rw [hset, if_neg (by omega)]; exact p3
  · exact ⟨ck, by rw [Go.RowKit.Below.heap_setCell _ _ _ _ (by exact ek)]; exact hck, hck2⟩
theorem Ko.setInt {w : World} {G gz n zn : Nat} {gi len ci : Nat → Nat} (h : Ko w G gz n zn gi len ci) (k : Nat) (z : Int) : Ko (w.setCell ⟨gz, k, none⟩ (vI z)) G gz n zn gi len ci := by
  obtain ⟨cur, hr, hr2⟩ := h.row
  obtain ⟨cz, hz, hz2⟩ := h.zs
  refine ⟨⟨cur, set_other hz hr (by decide) _ _, hr2⟩, fun i hi => ?_, ⟨_, set_of hz _ _, fun p hp => ?_⟩⟩
  · obtain ⟨ck, hck, hck2⟩ := h.blk i hi
    exact ⟨ck, set_other hz hck (by decide) _ _, hck2⟩
  · obtain ⟨y, hy⟩ := hz2 p hp
    have l := (Array.getElem?_eq_some_iff.1 hy).1
    rw [Array.getElem?_setIfInBounds]
    by_cases e : k = p
    · rw [if_pos e, if_pos (by omega)]; exact ⟨z, rfl⟩
    · rw [if_neg e]; exact ⟨y, hy⟩
/-- What lies there, as calls and numbers. -/
def opAt (w : World) (g q : Nat) : OpT := match w.cell? ⟨g, q * 3, none⟩, w.cell? ⟨g, q * 3 + 1, none⟩, w.cell? ⟨g, q * 3 + 2, none⟩ with | some (.int _ a), some (.int _ b), some (.string x) => (a, b, x) | _, _, _ => (0, 0, ⟨#[]⟩)
def zAt (w : World) (g k : Nat) : Int := match w.cell? ⟨g, k, none⟩ with | some (.int _ a) => a | _ => 0
def clAt (w : World) (n : Nat) (gi len : Nat → Nat) : List (List OpT) := (List.range n).map (fun i => (List.range (len i)).map (opAt w (gi i)))
theorem opAt_is {w : World} {g m q : Nat} (h : OpB w g m) (hq : q < m) : w.cell? ⟨g, q * 3, none⟩ = some (vI (opAt w g q).1) ∧ w.cell? ⟨g, q * 3 + 1, none⟩ = some (vI (opAt w g q).2.1) ∧ In64 (opAt w g q).2.1 ∧ w.cell? ⟨g, q * 3 + 2, none⟩ = some (.string (opAt w g q).2.2) := by
  obtain ⟨cs, hcs, hc⟩ := h
  obtain ⟨a, b, x, p0, p1, p2, p3⟩ := hc q hq
  have c0 : w.cell? ⟨g, q * 3, none⟩ = some (vI a) := by rw [cell_of hcs]; exact p0
  have c1 : w.cell? ⟨g, q * 3 + 1, none⟩ = some (vI b) := by rw [cell_of hcs]; exact p1
  have c2 : w.cell? ⟨g, q * 3 + 2, none⟩ = some (.string x) := by rw [cell_of hcs]; exact p3
  have e : opAt w g q = (a, b, x) := by unfold opAt; rw [c0, c1, c2]
  rw [e]
  exact ⟨c0, c1, p2, c2⟩
theorem Ko.cls {w : World} {G gz n zn : Nat} {gi len ci : Nat → Nat} (h : Ko w G gz n zn gi len ci) (cap : Nat) (hc : ∀ i, i < n → len i ≤ ci i) : ClsAt w w.heap.size (.slice (some ⟨G, 0, none⟩) n cap) (clAt w n gi len) := by
  obtain ⟨cur, hr, hr2⟩ := h.row
  have hl : (clAt w n gi len).length = n := by simp [clAt]
  refine ⟨_, cap, by rw [hl], fun _ => ⟨G, 0, rfl, heap_lt hr, fun i hi => ?_⟩⟩
  have hi' : i < n := by omega
  refine ⟨_, by rw [Nat.zero_add, cell_of hr]; exact hr2 i hi', ?_⟩
  have e : (clAt w n gi len)[i] = (List.range (len i)).map (opAt w (gi i)) := by simp [clAt]
  rw [e]
  obtain ⟨cs, hcs, -⟩ := h.blk i hi'
  refine ⟨_, ci i, by simp, by simp; exact hc i hi', fun _ => ⟨gi i, 0, rfl, heap_lt hcs, fun q hq => ?_⟩⟩
  have hq' : q < len i := by simpa using hq
  obtain ⟨c0, c1, -, c2⟩ := opAt_is (h.blk i hi') hq'
  simp only [List.getElem_map, List.getElem_range, Nat.zero_add]
  exact ⟨c0, c1, c2⟩
theorem Ko.ints {w : World} {G gz n zn : Nat} {gi len ci : Nat → Nat} (h : Ko w G gz n zn gi len ci) (cap : Nat) : IntsAt w w.heap.size (.slice (some ⟨gz, 0, none⟩) zn cap) ((List.range zn).map (zAt w gz)) := by
  obtain ⟨cz, hz, hz2⟩ := h.zs
  refine ⟨_, cap, by simp, fun _ => ⟨gz, 0, rfl, heap_lt hz, fun k hk => ?_⟩⟩
  have hk' : k < zn := by simpa using hk
  obtain ⟨y, hy⟩ := hz2 k hk'
  have c : w.cell? ⟨gz, k, none⟩ = some (vI y) := by rw [cell_of hz]; exact hy
  simp only [List.getElem_map, List.getElem_range, Nat.zero_add]
  rw [c]
  unfold zAt
  rw [c]
theorem Ko.keys {w : World} {G gz n zn : Nat} {gi len ci : Nat → Nat} (h : Ko w G gz n zn gi len ci) : ∀ l ∈ clAt w n gi len, ∀ o ∈ l, In64 o.2.1 := fun l hl o ho => by
  unfold clAt at hl
  obtain ⟨i, hi, rfl⟩ := List.mem_map.1 hl
  obtain ⟨q, hq, rfl⟩ := List.mem_map.1 ho
  exact (opAt_is (h.blk i (List.mem_range.1 hi)) (List.mem_range.1 hq)).2.2.1
theorem clAt_total (w : World) (cl : List (List OpT)) (gi : Nat → Nat) : total (clAt w cl.length gi (fun i => (cl.getD i []).length)) = total cl := by
  have e : (clAt w cl.length gi (fun i => (cl.getD i []).length)).map List.length = cl.map List.length := by
    unfold clAt
    apply List.ext_getElem
    · simp
    · intro i h1 h2
      have h2' : i < cl.length := by simpa using h2
      simp [h2']
  unfold total
  rw [e]
  simp [clAt]
/-- The beginning: out of roomOps and roomInts. -/
theorem ko_start {w : World} {B B2 : Nat} {v sv : Value} {cl : List (List OpT)} {zs : List Int} (h : RmO w B v cl) (hk : ∀ l ∈ cl, ∀ o ∈ l, In64 o.2.1) (hz : RmI w B2 sv zs) :
    ∃ G cap gz zc gi ci, v = .slice (some ⟨G, 0, none⟩) cl.length cap ∧ sv = .slice (some ⟨gz, 0, none⟩) zs.length zc ∧ (∀ i, i < cl.length → (cl.getD i []).length ≤ ci i ∧ B ≤ gi i) ∧ B2 ≤ gz ∧ Ko w G gz cl.length zs.length gi (fun i => (cl.getD i []).length) ci := by
  obtain ⟨G, cap, us, e1, e2, hL⟩ := h
  have hit : ∀ i (hi : i < cl.length), ∃ g c, us[i]? = some (.slice (some ⟨g, 0, none⟩) (cl.getD i []).length c) ∧ ((cl.getD i []).length ≤ c ∧ B ≤ g) ∧ OpB w g (cl.getD i []).length := fun i hi => by
    rcases hL.it i (by omega) with ⟨-, hu⟩ | ⟨hge, -⟩
    · obtain ⟨g, c, eg, hc, ⟨cs, hcs, -⟩, p1, -⟩ := hu.cells
      refine ⟨g, c, by rw [List.getElem?_eq_getElem (by omega), eg], ⟨by omega, (hu.own (by rw [eg]; rfl)).1⟩, cs, hcs, fun q hq => ?_⟩
      obtain ⟨c0, c1, c2⟩ := p1 q hq
      rw [cell_of hcs] at c0 c1 c2
      have hm : (cl.getD i [])[q] ∈ cl.getD i [] := List.getElem_mem hq
      exact ⟨_, _, _, c0, c1, hk (cl.getD i []) (by rw [getD_at hi]; exact List.getElem_mem hi) _ hm, c2⟩
    · omega
  obtain ⟨gz, zc, ez, ho⟩ := hz
  have hex : ∀ i, ∃ g c, i < cl.length → us[i]? = some (.slice (some ⟨g, 0, none⟩) (cl.getD i []).length c) ∧ ((cl.getD i []).length ≤ c ∧ B ≤ g) ∧ OpB w g (cl.getD i []).length := fun i => by
    by_cases hi : i < cl.length
    · obtain ⟨g, c, q⟩ := hit i hi
      exact ⟨g, c, fun _ => q⟩
    · exact ⟨0, 0, fun e => absurd e hi⟩
  refine ⟨G, cap, gz, zc, fun i => Classical.choose (hex i), fun i => Classical.choose (Classical.choose_spec (hex i)), e1, ez, fun i hi => (Classical.choose_spec (Classical.choose_spec (hex i)) hi).2.1, (World.ownsRow.lt ho gz rfl).1, ?_, fun i hi => (Classical.choose_spec (Classical.choose_spec (hex i)) hi).2.2, ?_⟩
  · rcases hL.row.2 with ⟨q1, -⟩ | ⟨g3, cap3, cur, q1, b1, b2, b3, b4, b5, b6⟩
    · cases q1
    · injection q1 with q2 _ _
      injection q2 with q2
      injection q2 with q2 _ _
      subst q2
      refine ⟨cur, b2, fun i hi => ?_⟩
      have h1 := (Classical.choose_spec (Classical.choose_spec (hex i)) hi).1
      rw [← h1, ← b6, List.getElem?_take, if_pos (by omega), Array.getElem?_toList]
  · rcases ho.2 with ⟨q1, -⟩ | ⟨g3, cap3, cur, q1, b1, b2, b3, b4, b5, b6⟩
    · cases q1
    · injection q1 with q2 _ _
      injection q2 with q2
      injection q2 with q2 _ _
      subst q2
      refine ⟨cur, b2, fun k hk => ⟨zs[k], ?_⟩⟩
      have : cur[k]? = (zs.map vI ++ mkI 64)[k]? := by rw [← b6, List.getElem?_take, if_pos (by omega), Array.getElem?_toList]
      rw [this, List.getElem?_append_left (by simpa using hk)]
      simp [hk]
end Go.Proofs.YtngbakjalmgciaaGreat
