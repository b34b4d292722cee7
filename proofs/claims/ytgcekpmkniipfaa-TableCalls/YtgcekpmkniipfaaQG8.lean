import Derived.Test.YtgcekpmkniipfaaQT0
namespace Go.Proofs.Ytgcekpmkniipfaa
open Go.RowKit (wrap32 wrap64)
set_option linter.unusedVariables false
set_option linter.unusedSimpArgs false

theorem info43 : (Try.prog.info? 43).map (fun i => (i.zero, i.size, i.bytes)) = some (some (.agg #[.bool false, .string ⟨#[]⟩, .slice none 0 0, .slice none 0 0]), 4, 72) := by kernel_rfl
theorem under57 : Try.prog.underlying 57 = some (.slice 43) := by kernel_rfl
theorem step_append_run {P : Program} {w w' : World} {ops : Array Oper} {o : Oper} {a : Act} {K : Act → World → Prop} {Q : Exit → Act → World → Prop} {E : Prop} (hgd : o.guard = none) (s x : Operand) (t : TypeId)
    (ho : o.op = .call { callee := .builtin .append, args := #[s, x], argTypes := #[t, t] }) (v u v' : Value) (hs : a.eval s = v) (hx : a.eval x = u)
    (hrun : (Builtin.append_ #[t, t] o.type #[v, u]).run P w = .ok v' w') (h : K (a.put o.dst v') w') : if Region.wanted o (yielded ops a.tmps) = true then Oper.wp P o a w K Q else E := by
  have hw : Region.wanted o (yielded ops a.tmps) = true := by simp [Region.wanted, hgd]
  rw [if_pos hw]
  unfold Oper.wp
  simp [execOp, ho, resolve, invoke, builtin, hs, hx, hrun, Result.andThen]
  exact h

def KR.sl (x : KR) : Prop := (∃ a n c, x.rk = .slice a n c) ∧ ∃ a n c, x.ru = .slice a n c
theorem row4_one {x : KR} (h : x.sl) : ∀ u ∈ row4 x, u.oneCell' = true := by
  obtain ⟨⟨a, n, c, e1⟩, ⟨a', n', c', e2⟩⟩ := h
  intro u hu
  unfold row4 at hu
  rw [e1, e2] at hu
  simp at hu
  rcases hu with rfl | rfl | rfl | rfl <;> rfl
theorem Sy.fr5 {w w' : World} {B : Nat} {own own2 : Nat → Nat} {p q : TS} {r s : RS} {gs : List KR} (h : Sy w B own p q r s gs) {S : Nat → Prop} (f : Fr S w w') (hS : ∀ j, S j → own j = 5 ∨ own j = 6 ∨ own j = 7) (he : ∀ j, own j ≠ 0 → own2 j = own j) (hlt : ∀ j, own2 j ≠ 0 → own j ≠ 0 ∨ (B ≤ j ∧ j < w'.heap.size)) : Sy w' B own2 p q r s gs := by
  have key : ∀ j n, own j = n → n ≠ 5 → n ≠ 6 → n ≠ 7 → ¬ S j := fun j n e h5 h6 h7 hj => by have := hS j hj; omega
  have ke : ∀ j n, own j = n → n ≠ 0 → own2 j = n := fun j n e hn => by rw [he j (by omega)]; exact e
  refine ⟨fun j hj => ?_, h.pt.fr f (fun j hj => key j 1 (h.po j hj) (by omega) (by omega) (by omega)), fun j hj => ke j 1 (h.po j hj) (by omega), h.qt.fr f (fun j hj => key j 2 (h.qo j hj) (by omega) (by omega) (by omega)), fun j hj => ke j 2 (h.qo j hj) (by omega),
    h.rt.fr f (key _ 3 h.ro.1 (by omega) (by omega) (by omega)) (fun j hj => key j 3 (h.ro.2.1 j hj) (by omega) (by omega) (by omega)) (fun j hj => key j 3 (h.ro.2.2 j hj) (by omega) (by omega) (by omega)), ⟨ke _ 3 h.ro.1 (by omega), fun j hj => ke j 3 (h.ro.2.1 j hj) (by omega), fun j hj => ke j 3 (h.ro.2.2 j hj) (by omega)⟩,
    h.st.fr f (key _ 4 h.so.1 (by omega) (by omega) (by omega)) (fun j hj => key j 4 (h.so.2.1 j hj) (by omega) (by omega) (by omega)) (fun j hj => key j 4 (h.so.2.2 j hj) (by omega) (by omega) (by omega)), ⟨ke _ 4 h.so.1 (by omega), fun j hj => ke j 4 (h.so.2.1 j hj) (by omega), fun j hj => ke j 4 (h.so.2.2 j hj) (by omega)⟩, fun i hi => ?_⟩
  · rcases hlt j hj with e | e
    · exact ⟨(h.lt j e).1, Nat.lt_of_lt_of_le (h.lt j e).2 f.size⟩
    · exact e
  · obtain ⟨h1, h2, h3, h4⟩ := h.k i hi
    exact ⟨h1.fr f (fun j hj => key j _ (h3 j hj) (by omega) (by omega) (by omega)), h2.fr f (fun j hj => key j _ (h4 j hj) (by omega) (by omega) (by omega)), fun j hj => ke j _ (h3 j hj) (by omega), fun j hj => ke j _ (h4 j hj) (by omega)⟩
/-- Four answers more in the first list. -/
theorem Ak.growL {w0 w : World} {B : Nat} {own0 own : Nat → Nat} {p q : TS} {r s : RS} {gs : List KR} {kb : Nat} {lv wv : Value} {sum : Nat} {ls ws : List KR} {bs : List (Nat × Obj)} (h : Ak w0 w B own0 own p q r s gs kb lv wv sum ls ws bs) (h0 : own0 kb ≠ 0 ∧ B ≤ w0.heap.size) (xs : List KR) (h4 : xs.length = 4) (hx : ∀ x ∈ xs, x.sl) (hl : ls.length ≤ 9000000000) :
    ∃ g cap w2 own2, (Builtin.append_ #[57, 57] 57 #[lv, .slice (some ⟨w.heap.size, 0, none⟩) 4 4]).run Try.prog (w.alloc (.cells (xs.map row4).flatten.toArray 43)) = .ok (.slice (some ⟨g, 0, none⟩) (ls.length + 4) cap) w2 ∧ w2.heap[kb]? = some (.cells #[lv, wv, vI sum] 59) ∧ Ak w0 (w2.setCell ⟨kb, 0, none⟩ (.slice (some ⟨g, 0, none⟩) (ls.length + 4) cap)) B own0 own2 p q r s gs kb (.slice (some ⟨g, 0, none⟩) (ls.length + 4) cap) wv sum (ls ++ xs) ws bs ∧ Ext own own2 w ∧ Fr (fun j => own j = 5 ∨ own j = 6 ∨ own j = 7) w (w2.setCell ⟨kb, 0, none⟩ (.slice (some ⟨g, 0, none⟩) (ls.length + 4) cap)) := by
  obtain ⟨i43, hi43, hz43, hs43, hb43⟩ := info_parts info43
  have hflen : ∀ (l : List KR), ((l.map row4).flatten).length = l.length * 4 := fun l => by
    have := flat_len (k := 4) (rows := l.map row4) (fun r hr => by obtain ⟨x, -, rfl⟩ := List.mem_map.1 hr; rfl)
    simpa using this
  obtain ⟨g, cap, w2, hr, hown, hgr, hw, hlt⟩ := run_append_lies (P := Try.prog) (w := w.alloc (.cells (xs.map row4).flatten.toArray 43)) 57 57 B 43 i43 (.agg #[.bool false, .string ⟨#[]⟩, .slice none 0 0, .slice none 0 0]) 4 72 under57 hi43 hz43 hs43 hb43 rfl (by omega) lv ls.length _ (World.ownsRow.alloc h.kp.lr _) ⟨w.heap.size, 0, none⟩ 4 4 (xs.map row4).flatten (by rw [hflen, h4]) (World.news_of_block (cs := (xs.map row4).flatten.toArray) (heap_alloc_last w _)) (fun u hu => by
    obtain ⟨l, hl1, hl2⟩ := List.mem_flatten.1 hu
    obtain ⟨x, hx1, rfl⟩ := List.mem_map.1 hl1
    exact row4_one (hx x hx1) u hl2) (by omega) (by unfold maxLen; omega) (by omega) (by have := h.hB; simp; omega) _ rfl
  have f1 : Fr (fun j => lv.ownBlock = some j) w w2 := ((Fr.refl _ w).alloc _).trans (grown_fr hgr)
  have f1' : Fr (fun j => own j = 6) w w2 := f1.mono (fun j _ e => h.kp.lo j e)
  have hkl := heap_lt h.kp.obj
  have e2 : w2.heap[kb]? = some (.cells #[lv, wv, vI sum] 59) := (f1'.block kb hkl (by rw [h.kp.ob]; decide)).trans h.kp.obj
  have hg6 : own g = 6 ∨ w.heap.size ≤ g := by
    rcases hw with hw | hw
    · exact Or.inl (h.kp.lo g hw)
    · right; rw [hw]; simp
  have hgz : w.heap.size ≤ g → own g = 0 := h.sy.zero g
  have hext : ∀ j, own j ≠ 0 → (if j = g then 6 else own j) = own j := fun j hj => by
    split
    · rename_i e; subst e
      rcases hg6 with e2 | e2
      · exact e2.symm
      · exact absurd (hgz e2) hj
    · rfl
  have hextw : ∀ j, j < w.heap.size → (if j = g then 6 else own j) = own j := fun j hj => by
    split
    · rename_i e; subst e
      rcases hg6 with e2 | e2
      · exact e2.symm
      · omega
    · rfl
  have hgk : g ≠ kb := by
    intro e; subst e
    rcases hg6 with e | e
    · rw [h.kp.ob] at e; omega
    · omega
  have f3 : Fr (fun j => own j = 5 ∨ own j = 6) w (w2.setCell ⟨kb, 0, none⟩ (.slice (some ⟨g, 0, none⟩) (ls.length + 4) cap)) := (f1'.mono (fun _ _ e => Or.inr e)).setCell _ _ (Or.inl (Or.inl h.kp.ob))
  have f2 : Fr (fun j => j = kb) w2 (w2.setCell ⟨kb, 0, none⟩ (.slice (some ⟨g, 0, none⟩) (ls.length + 4) cap)) := (Fr.refl _ w2).setCell _ _ (Or.inl rfl)
  have hsz := h.fr.size
  have hgB := (World.ownsRow.lt hown g rfl)
  refine ⟨g, cap, w2, fun j => if j = g then 6 else own j, hr, e2, ⟨h.sy.fr5 f3 (fun j hj => by omega) hext (fun j hj => ?_), ⟨?_, by rw [hext kb (by rw [h.kp.ob]; decide)]; exact h.kp.ob, ?_, fun j e => ?_, ownsRow_fr h.kp.wr f3 (fun j e e2 => by have := h.kp.wo j e; omega), fun j e => by rw [hext j (by rw [h.kp.wo j e]; decide)]; exact h.kp.wo j e, fun i hi => ?_⟩, ?_, h.fr.joins f3 (fun j hj e => by rw [← h.ext j hj]; omega), fun j hj => (hextw j (by omega)).trans (h.ext j hj), Nat.le_trans h.hB f3.size⟩, hextw, f3.mono (fun j _ e => by omega)⟩
  · by_cases e : j = g
    · subst e; right; exact ⟨hgB.1, Nat.lt_of_lt_of_le hgB.2 f2.size⟩
    · left; rw [if_neg e] at hj; exact hj
  · rw [set_of e2]; rfl
  · have := ownsRow_fr hown f2 (fun j e1 e3 => by have : g = j := Option.some.inj e1; omega)
    rw [List.length_append, h4, List.map_append, List.flatten_append]
    exact this
  · have : g = j := Option.some.inj e
    rw [if_pos this.symm]
  · obtain ⟨h1, h2, h3, h5⟩ := h.kp.wl i hi
    exact ⟨(h1.fr f3 (Nat.le_refl _) (fun j e e2 => by have := (h3 j e).1; omega)).mono f3.size, (h2.fr f3 (Nat.le_refl _) (fun j e e2 => by have := (h5 j e).1; omega)).mono f3.size, fun j e => ⟨(hextw j (h3 j e).2).trans (h3 j e).1, Nat.lt_of_lt_of_le (h3 j e).2 f3.size⟩, fun j e => ⟨(hextw j (h5 j e).2).trans (h5 j e).1, Nat.lt_of_lt_of_le (h5 j e).2 f3.size⟩⟩
  · exact fun x hx => by
      obtain ⟨q1, q2⟩ := h.loc x hx
      exact ⟨(f3.block x.1 (heap_lt q1) (by omega)).trans q1, (hextw _ (heap_lt q1)).trans q2⟩
/-- Four answers more in the second list. -/
theorem Ak.growW {w0 w : World} {B : Nat} {own0 own : Nat → Nat} {p q : TS} {r s : RS} {gs : List KR} {kb : Nat} {lv wv : Value} {sum : Nat} {ls ws : List KR} {bs : List (Nat × Obj)} (h : Ak w0 w B own0 own p q r s gs kb lv wv sum ls ws bs) (h0 : own0 kb ≠ 0 ∧ B ≤ w0.heap.size) (xs : List KR) (h4 : xs.length = 4) (hx : ∀ x ∈ xs, x.sl) (hl : ws.length ≤ 9000000000) (hwx : ∀ x ∈ xs, RowAt w w.heap.size x.rk (kCells x.R.L) ∧ RowAt w w.heap.size x.ru (vCells x.R.L) ∧ (∀ j, x.rk.ownBlock = some j → own j = 0 ∧ j < w.heap.size) ∧ ∀ j, x.ru.ownBlock = some j → own j = 0 ∧ j < w.heap.size) :
    ∃ g cap w2 own2, (Builtin.append_ #[57, 57] 57 #[wv, .slice (some ⟨w.heap.size, 0, none⟩) 4 4]).run Try.prog (w.alloc (.cells (xs.map row4).flatten.toArray 43)) = .ok (.slice (some ⟨g, 0, none⟩) (ws.length + 4) cap) w2 ∧ w2.heap[kb]? = some (.cells #[lv, wv, vI sum] 59) ∧ Ak w0 (w2.setCell ⟨kb, 1, none⟩ (.slice (some ⟨g, 0, none⟩) (ws.length + 4) cap)) B own0 own2 p q r s gs kb lv (.slice (some ⟨g, 0, none⟩) (ws.length + 4) cap) sum ls (ws ++ xs) bs ∧ Ext own own2 w ∧ Fr (fun j => own j = 5 ∨ own j = 6 ∨ own j = 7) w (w2.setCell ⟨kb, 1, none⟩ (.slice (some ⟨g, 0, none⟩) (ws.length + 4) cap)) := by
  obtain ⟨i43, hi43, hz43, hs43, hb43⟩ := info_parts info43
  have hflen : ∀ (l : List KR), ((l.map row4).flatten).length = l.length * 4 := fun l => by
    have := flat_len (k := 4) (rows := l.map row4) (fun r hr => by obtain ⟨x, -, rfl⟩ := List.mem_map.1 hr; rfl)
    simpa using this
  obtain ⟨g, cap, w2, hr, hown, hgr, hw, hlt⟩ := run_append_lies (P := Try.prog) (w := w.alloc (.cells (xs.map row4).flatten.toArray 43)) 57 57 B 43 i43 (.agg #[.bool false, .string ⟨#[]⟩, .slice none 0 0, .slice none 0 0]) 4 72 under57 hi43 hz43 hs43 hb43 rfl (by omega) wv ws.length _ (World.ownsRow.alloc h.kp.wr _) ⟨w.heap.size, 0, none⟩ 4 4 (xs.map row4).flatten (by rw [hflen, h4]) (World.news_of_block (cs := (xs.map row4).flatten.toArray) (heap_alloc_last w _)) (fun u hu => by
    obtain ⟨l, hl1, hl2⟩ := List.mem_flatten.1 hu
    obtain ⟨x, hx1, rfl⟩ := List.mem_map.1 hl1
    exact row4_one (hx x hx1) u hl2) (by omega) (by unfold maxLen; omega) (by omega) (by have := h.hB; simp; omega) _ rfl
  have f1 : Fr (fun j => wv.ownBlock = some j) w w2 := ((Fr.refl _ w).alloc _).trans (grown_fr hgr)
  have f1' : Fr (fun j => own j = 7) w w2 := f1.mono (fun j _ e => h.kp.wo j e)
  have hkl := heap_lt h.kp.obj
  have e2 : w2.heap[kb]? = some (.cells #[lv, wv, vI sum] 59) := (f1'.block kb hkl (by rw [h.kp.ob]; decide)).trans h.kp.obj
  have hg6 : own g = 7 ∨ w.heap.size ≤ g := by
    rcases hw with hw | hw
    · exact Or.inl (h.kp.wo g hw)
    · right; rw [hw]; simp
  have hgz : w.heap.size ≤ g → own g = 0 := h.sy.zero g
  have hext : ∀ j, own j ≠ 0 → (if j = g then 7 else own j) = own j := fun j hj => by
    split
    · rename_i e; subst e
      rcases hg6 with e2 | e2
      · exact e2.symm
      · exact absurd (hgz e2) hj
    · rfl
  have hextw : ∀ j, j < w.heap.size → (if j = g then 7 else own j) = own j := fun j hj => by
    split
    · rename_i e; subst e
      rcases hg6 with e2 | e2
      · exact e2.symm
      · omega
    · rfl
  have hgk : g ≠ kb := by
    intro e; subst e
    rcases hg6 with e | e
    · rw [h.kp.ob] at e; omega
    · omega
  have f3 : Fr (fun j => own j = 5 ∨ own j = 7) w (w2.setCell ⟨kb, 1, none⟩ (.slice (some ⟨g, 0, none⟩) (ws.length + 4) cap)) := (f1'.mono (fun _ _ e => Or.inr e)).setCell _ _ (Or.inl (Or.inl h.kp.ob))
  have f2 : Fr (fun j => j = kb) w2 (w2.setCell ⟨kb, 1, none⟩ (.slice (some ⟨g, 0, none⟩) (ws.length + 4) cap)) := (Fr.refl _ w2).setCell _ _ (Or.inl rfl)
  have hsz := h.fr.size
  have hgB := (World.ownsRow.lt hown g rfl)
  refine ⟨g, cap, w2, fun j => if j = g then 7 else own j, hr, e2, ⟨h.sy.fr5 f3 (fun j hj => by omega) hext (fun j hj => ?_), ⟨?_, by rw [hext kb (by rw [h.kp.ob]; decide)]; exact h.kp.ob, ownsRow_fr h.kp.lr f3 (fun j e e2 => by have := h.kp.lo j e; omega), fun j e => by rw [hext j (by rw [h.kp.lo j e]; decide)]; exact h.kp.lo j e, ?_, fun j e => ?_, fun i hi => ?_⟩, ?_, h.fr.joins f3 (fun j hj e => by rw [← h.ext j hj]; omega), fun j hj => (hextw j (by omega)).trans (h.ext j hj), Nat.le_trans h.hB f3.size⟩, hextw, f3.mono (fun j _ e => by omega)⟩
  · by_cases e : j = g
    · subst e; right; exact ⟨hgB.1, Nat.lt_of_lt_of_le hgB.2 f2.size⟩
    · left; rw [if_neg e] at hj; exact hj
  · rw [set_of e2]; rfl
  · have := ownsRow_fr hown f2 (fun j e1 e3 => by have : g = j := Option.some.inj e1; omega)
    rw [List.length_append, h4, List.map_append, List.flatten_append]
    exact this
  · have : g = j := Option.some.inj e
    rw [if_pos this.symm]
  · have hh : RowAt w w.heap.size (ws ++ xs)[i].rk (kCells (ws ++ xs)[i].R.L) ∧ RowAt w w.heap.size (ws ++ xs)[i].ru (vCells (ws ++ xs)[i].R.L) ∧ (∀ j, (ws ++ xs)[i].rk.ownBlock = some j → own j = 0 ∧ j < w.heap.size) ∧ ∀ j, (ws ++ xs)[i].ru.ownBlock = some j → own j = 0 ∧ j < w.heap.size := by
      by_cases e : i < ws.length
      · rw [List.getElem_append_left e]; exact h.kp.wl i e
      · rw [List.getElem_append_right (by omega)]; exact hwx _ (List.getElem_mem _)
    obtain ⟨h1, h2, h3, h5⟩ := hh
    exact ⟨(h1.fr f3 (Nat.le_refl _) (fun j e e2 => by have := (h3 j e).1; omega)).mono f3.size, (h2.fr f3 (Nat.le_refl _) (fun j e e2 => by have := (h5 j e).1; omega)).mono f3.size, fun j e => ⟨(hextw j (h3 j e).2).trans (h3 j e).1, Nat.lt_of_lt_of_le (h3 j e).2 f3.size⟩, fun j e => ⟨(hextw j (h5 j e).2).trans (h5 j e).1, Nat.lt_of_lt_of_le (h5 j e).2 f3.size⟩⟩
  · exact fun x hx => by
      obtain ⟨q1, q2⟩ := h.loc x hx
      exact ⟨(f3.block x.1 (heap_lt q1) (by omega)).trans q1, (hextw _ (heap_lt q1)).trans q2⟩
/-- The number of keys. -/
theorem Ak.setSum {w0 w : World} {B : Nat} {own0 own : Nat → Nat} {p q : TS} {r s : RS} {gs : List KR} {kb : Nat} {lv wv : Value} {sum : Nat} {ls ws : List KR} {bs : List (Nat × Obj)} (h : Ak w0 w B own0 own p q r s gs kb lv wv sum ls ws bs) (sum' : Nat) : Ak w0 (w.setCell ⟨kb, 2, none⟩ (vI sum')) B own0 own p q r s gs kb lv wv sum' ls ws bs := by
  have hkl := heap_lt h.kp.obj
  have f3 : Fr (fun j => own j = 5) w (w.setCell ⟨kb, 2, none⟩ (vI sum')) := (Fr.refl _ w).setCell _ _ (Or.inl h.kp.ob)
  refine ⟨h.sy.fr5 f3 (fun j hj => by omega) (fun _ _ => rfl) (fun j hj => Or.inl hj), ⟨by rw [set_of h.kp.obj]; rfl, h.kp.ob, ownsRow_fr h.kp.lr f3 (fun j e e2 => by have := h.kp.lo j e; omega), h.kp.lo, ownsRow_fr h.kp.wr f3 (fun j e e2 => by have := h.kp.wo j e; omega), h.kp.wo, fun i hi => ?_⟩, fun x hx => ?_, h.fr.joins f3 (fun j hj e => by rw [← h.ext j hj]; omega), h.ext, Nat.le_trans h.hB f3.size⟩
  · obtain ⟨h1, h2, h3, h5⟩ := h.kp.wl i hi
    exact ⟨(h1.fr f3 (Nat.le_refl _) (fun j e e2 => by have := (h3 j e).1; omega)).mono f3.size, (h2.fr f3 (Nat.le_refl _) (fun j e e2 => by have := (h5 j e).1; omega)).mono f3.size, fun j e => ⟨(h3 j e).1, Nat.lt_of_lt_of_le (h3 j e).2 f3.size⟩, fun j e => ⟨(h5 j e).1, Nat.lt_of_lt_of_le (h5 j e).2 f3.size⟩⟩
  · obtain ⟨q1, q2⟩ := h.loc x hx
    exact ⟨(f3.block x.1 (heap_lt q1) (by omega)).trans q1, q2⟩
end Go.Proofs.Ytgcekpmkniipfaa
