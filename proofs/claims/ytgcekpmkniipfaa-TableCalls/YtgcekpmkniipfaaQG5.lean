import Derived.Test.YtgcekpmkniipfaaQG3b
namespace Go.Proofs.Ytgcekpmkniipfaa
open Go.RowKit (wrap32 wrap64)
set_option linter.unusedVariables false
set_option linter.unusedSimpArgs false

/-! ### two tables, the document's two, and what was kept -/
structure TS where
  b : Nat
  g : Gh
  N : Nat
  L : List Kv
structure RS where
  c : Nat
  kv : Value
  vv : Value
  L : List Kv
structure Sy (w : World) (B : Nat) (own : Nat → Nat) (p q : TS) (r s : RS) (gs : List KR) : Prop where
  lt : ∀ j, own j ≠ 0 → B ≤ j ∧ j < w.heap.size
  pt : Pt w p.b p.g p.N p.L
  po : ∀ j, p.g.own j ≠ 0 → own j = 1
  qt : Pt w q.b q.g q.N q.L
  qo : ∀ j, q.g.own j ≠ 0 → own j = 2
  rt : Rt w B r.c r.kv r.vv r.L
  ro : own r.c = 3 ∧ (∀ j, r.kv.ownBlock = some j → own j = 3) ∧ ∀ j, r.vv.ownBlock = some j → own j = 3
  st : Rt w B s.c s.kv s.vv s.L
  so : own s.c = 4 ∧ (∀ j, s.kv.ownBlock = some j → own j = 4) ∧ ∀ j, s.vv.ownBlock = some j → own j = 4
  k : ∀ i (h : i < gs.length), Full w B 3 gs[i].rk (kCells gs[i].R.L) ∧ Full w B 9 gs[i].ru (vCells gs[i].R.L) ∧ (∀ j, gs[i].rk.ownBlock = some j → own j = 10 + 2 * i) ∧ ∀ j, gs[i].ru.ownBlock = some j → own j = 11 + 2 * i
section
variable {w w' : World} {B : Nat} {own own' : Nat → Nat} {p q p' : TS} {r s r' : RS} {gs : List KR}
theorem Sy.fr (h : Sy w B own p q r s gs) {S : Nat → Prop} (f : Fr S w w') (hS : ∀ j, own j ≠ 0 → ¬ S j) : Sy w' B own p q r s gs := by
  refine ⟨fun j hj => ⟨(h.lt j hj).1, Nat.lt_of_lt_of_le (h.lt j hj).2 f.size⟩, h.pt.fr f (fun j hj => hS j (by rw [h.po j hj]; decide)), h.po, h.qt.fr f (fun j hj => hS j (by rw [h.qo j hj]; decide)), h.qo, h.rt.fr f (hS _ (by rw [h.ro.1]; decide)) (fun j hj => hS j (by rw [h.ro.2.1 j hj]; decide)) (fun j hj => hS j (by rw [h.ro.2.2 j hj]; decide)), h.ro, h.st.fr f (hS _ (by rw [h.so.1]; decide)) (fun j hj => hS j (by rw [h.so.2.1 j hj]; decide)) (fun j hj => hS j (by rw [h.so.2.2 j hj]; decide)), h.so, fun i hi => ?_⟩
  obtain ⟨h1, h2, h3, h4⟩ := h.k i hi
  exact ⟨h1.fr f (fun j hj => hS j (by rw [h3 j hj]; omega)), h2.fr f (fun j hj => hS j (by rw [h4 j hj]; omega)), h3, h4⟩
/-- The other way round. -/
def swp (n : Nat) : Nat := if n = 1 then 2 else if n = 2 then 1 else if n = 3 then 4 else if n = 4 then 3 else n
theorem swp_ne {n : Nat} : swp n ≠ 0 ↔ n ≠ 0 := by unfold swp; split; omega; split; omega; split; omega; split; omega; exact Iff.rfl
theorem swp_big {n : Nat} (h : 5 ≤ n) : swp n = n := by unfold swp; rw [if_neg (by omega), if_neg (by omega), if_neg (by omega), if_neg (by omega)]
theorem Sy.swap (h : Sy w B own p q r s gs) : Sy w B (fun j => swp (own j)) q p s r gs := by
  refine ⟨fun j hj => h.lt j (swp_ne.1 hj), h.qt, fun j hj => by rw [h.qo j hj]; rfl, h.pt, fun j hj => by rw [h.po j hj]; rfl, h.st, ⟨by rw [h.so.1]; rfl, fun j hj => by rw [h.so.2.1 j hj]; rfl, fun j hj => by rw [h.so.2.2 j hj]; rfl⟩, h.rt, ⟨by rw [h.ro.1]; rfl, fun j hj => by rw [h.ro.2.1 j hj]; rfl, fun j hj => by rw [h.ro.2.2 j hj]; rfl⟩, fun i hi => ?_⟩
  obtain ⟨h1, h2, h3, h4⟩ := h.k i hi
  exact ⟨h1, h2, fun j hj => by rw [h3 j hj, swp_big (by omega)], fun j hj => by rw [h4 j hj, swp_big (by omega)]⟩
theorem Sy.forget (h : Sy w B own p q r s gs) : Sy w B own p q r s [] := ⟨h.lt, h.pt, h.po, h.qt, h.qo, h.rt, h.ro, h.st, h.so, fun i hi => by simp at hi⟩

/-- The roles of what was there stay. -/
def Ext (own own' : Nat → Nat) (w : World) : Prop := ∀ j, j < w.heap.size → own' j = own j

/-- Behind a call of the first table. -/
theorem Sy.does (h : Sy w B own p q r s gs) (hB : B ≤ w.heap.size) {o : OpT} {rv : Value} (hd : DpE w w' p.b p.g p.N p.L o rv) :
    ∃ rk ru p' own', rv = .agg #[.bool (doR p.L o).ok, .string (doR p.L o).val, rk, ru] ∧ Sy w' B own' p' q r s gs ∧ p'.b = p.b ∧ p'.L = doT p.L o ∧ p'.N = p.N + 1 ∧ RepAt w' (fun j => own' j ≠ 0) w.heap.size rk ru (doR p.L o).L ∧ Ext own own' w ∧ Fr (fun j => own j = 1) w w' := by
  obtain ⟨rk, ru, g', e1, e2, e3, e4, e5⟩ := hd
  have hz : ∀ j, w.heap.size ≤ j → own j = 0 := fun j hj => by
    rcases Nat.eq_zero_or_pos (own j) with e | e
    · exact e
    · have := (h.lt j (by omega)).2; omega
  have hf : Fr (fun j => own j = 1) w w' := e4.mono (fun j _ hj => h.po j hj)
  have hgo : ∀ j, g'.own j ≠ 0 → own j = 1 ∨ w.heap.size ≤ j := fun j hj => by
    rcases e5 j hj with e | e
    · exact Or.inl (h.po j e)
    · exact Or.inr e
  have hext : ∀ j, own j ≠ 0 → (if g'.own j ≠ 0 then 1 else own j) = own j := fun j hj => by
    split
    · rename_i e
      rcases hgo j e with e2 | e2
      · exact e2.symm
      · exact absurd (hz j e2) hj
    · rfl
  have hext2 : ∀ j, j < w.heap.size → (if g'.own j ≠ 0 then 1 else own j) = own j := fun j hj => by
    split
    · rename_i e
      rcases hgo j e with e2 | e2
      · exact e2.symm
      · omega
    · rfl
  have hS : ∀ j n, own j = n → n ≠ 1 → ¬ (own j = 1) := fun j n e hn e2 => by omega
  refine ⟨rk, ru, ⟨p.b, g', p.N + 1, doT p.L o⟩, fun j => if g'.own j ≠ 0 then 1 else own j, e1, ⟨fun j hj => ?_, e3, fun j hj => by rw [if_pos hj], h.qt.fr hf (fun j hj => by rw [h.qo j hj]; decide), fun j hj => by rw [hext j (by rw [h.qo j hj]; decide)]; exact h.qo j hj, h.rt.fr hf (by rw [h.ro.1]; decide) (fun j hj => by rw [h.ro.2.1 j hj]; decide) (fun j hj => by rw [h.ro.2.2 j hj]; decide), ⟨by rw [hext _ (by rw [h.ro.1]; decide)]; exact h.ro.1, fun j hj => by rw [hext j (by rw [h.ro.2.1 j hj]; decide)]; exact h.ro.2.1 j hj, fun j hj => by rw [hext j (by rw [h.ro.2.2 j hj]; decide)]; exact h.ro.2.2 j hj⟩, h.st.fr hf (by rw [h.so.1]; decide) (fun j hj => by rw [h.so.2.1 j hj]; decide) (fun j hj => by rw [h.so.2.2 j hj]; decide), ⟨by rw [hext _ (by rw [h.so.1]; decide)]; exact h.so.1, fun j hj => by rw [hext j (by rw [h.so.2.1 j hj]; decide)]; exact h.so.2.1 j hj, fun j hj => by rw [hext j (by rw [h.so.2.2 j hj]; decide)]; exact h.so.2.2 j hj⟩, fun i hi => ?_⟩, rfl, rfl, rfl, ?_, hext2, hf⟩
  · by_cases e : g'.own j ≠ 0
    · refine ⟨?_, e3.lt j e⟩
      rcases hgo j e with e2 | e2
      · exact (h.lt j (by omega)).1
      · omega
    · rw [if_neg e] at hj
      exact ⟨(h.lt j hj).1, Nat.lt_of_lt_of_le (h.lt j hj).2 hf.size⟩
  · obtain ⟨h1, h2, h3, h4⟩ := h.k i hi
    exact ⟨h1.fr hf (fun j hj => by rw [h3 j hj]; omega), h2.fr hf (fun j hj => by rw [h4 j hj]; omega), fun j hj => by rw [hext j (by rw [h3 j hj]; omega)]; exact h3 j hj, fun j hj => by rw [hext j (by rw [h4 j hj]; omega)]; exact h4 j hj⟩
  · rcases e2 with e2 | ⟨kb, vb, a1, a2, a3, a4, a5, a6, a7⟩
    · exact Or.inl e2
    · refine Or.inr ⟨kb, vb, a1, a2, a3, a4, fun hh => ?_, fun hh => ?_, a7⟩
      · have h1 : (if g'.own kb ≠ 0 then 1 else own kb) ≠ 0 := hh
        rw [if_neg (show ¬ g'.own kb ≠ 0 from a5)] at h1; exact h1 (hz kb a3)
      · have h1 : (if g'.own vb ≠ 0 then 1 else own vb) ≠ 0 := hh
        rw [if_neg (show ¬ g'.own vb ≠ 0 from a6)] at h1; exact h1 (hz vb a4)
/-- An answer is kept. -/
theorem Sy.kept (h : Sy w B own p q r s gs) {lo : Nat} (hlo : B ≤ lo) {rk ru : Value} {R : RepT} (hr : RepAt w (fun j => own j ≠ 0) lo rk ru R.L) : ∃ own', Sy w B own' p q r s (gs ++ [⟨rk, ru, R⟩]) ∧ (∀ j, j < lo → own' j = own j) ∧ ∀ j, own j ≠ 0 → own' j = own j := by
  have getL : ∀ {x : KR} (i : Nat) (hi : i < (gs ++ [x]).length), (i < gs.length ∧ ∃ h2 : i < gs.length, (gs ++ [x])[i] = gs[i]) ∨ (i = gs.length ∧ (gs ++ [x])[i] = x) := fun {x} i hi => by
    by_cases e : i < gs.length
    · exact Or.inl ⟨e, e, List.getElem_append_left e⟩
    · have : i = gs.length := by simp at hi; omega
      subst this
      exact Or.inr ⟨rfl, by simp⟩
  rcases hr with ⟨e1, e2, e3⟩ | ⟨kb, vb, a1, a2, a3, a4, a5, a6, a7⟩
  · refine ⟨own, ⟨h.lt, h.pt, h.po, h.qt, h.qo, h.rt, h.ro, h.st, h.so, fun i hi => ?_⟩, fun _ _ => rfl, fun _ _ => rfl⟩
    rcases getL i hi with ⟨hl, h2, e⟩ | ⟨rfl, e⟩
    · rw [e]; exact h.k i h2
    · rw [e]
      refine ⟨Or.inl ⟨e1, by simp [kCells, e3]⟩, Or.inl ⟨e2, by simp [vCells, e3]⟩, fun j hj => ?_, fun j hj => ?_⟩
      · simp only at hj; rw [e1] at hj; cases hj
      · simp only at hj; rw [e2] at hj; cases hj
  · have hk0 : own kb = 0 := by simpa using a5
    have hv0 : own vb = 0 := by simpa using a6
    have hne := a7.ne
    have hext : ∀ j, own j ≠ 0 → (if j = kb then 10 + 2 * gs.length else if j = vb then 11 + 2 * gs.length else own j) = own j := fun j hj => by
      rw [if_neg (fun e => hj (by rw [e]; exact hk0)), if_neg (fun e => hj (by rw [e]; exact hv0))]
    refine ⟨fun j => if j = kb then 10 + 2 * gs.length else if j = vb then 11 + 2 * gs.length else own j, ⟨fun j hj => ?_, h.pt, fun j hj => by rw [hext j (by rw [h.po j hj]; decide)]; exact h.po j hj, h.qt, fun j hj => by rw [hext j (by rw [h.qo j hj]; decide)]; exact h.qo j hj, h.rt, ⟨by rw [hext _ (by rw [h.ro.1]; decide)]; exact h.ro.1, fun j hj => by rw [hext j (by rw [h.ro.2.1 j hj]; decide)]; exact h.ro.2.1 j hj, fun j hj => by rw [hext j (by rw [h.ro.2.2 j hj]; decide)]; exact h.ro.2.2 j hj⟩, h.st, ⟨by rw [hext _ (by rw [h.so.1]; decide)]; exact h.so.1, fun j hj => by rw [hext j (by rw [h.so.2.1 j hj]; decide)]; exact h.so.2.1 j hj, fun j hj => by rw [hext j (by rw [h.so.2.2 j hj]; decide)]; exact h.so.2.2 j hj⟩, fun i hi => ?_⟩, fun j hj => ?_, hext⟩
    · by_cases ek : j = kb
      · subst ek; exact ⟨by omega, heap_lt a7.ks⟩
      · by_cases ev : j = vb
        · subst ev; exact ⟨by omega, heap_lt a7.vs⟩
        · rw [if_neg ek, if_neg ev] at hj; exact h.lt j hj
    · rcases getL i hi with ⟨hl, h2, e⟩ | ⟨rfl, e⟩
      · rw [e]
        obtain ⟨h1, h2', h3, h4⟩ := h.k i h2
        exact ⟨h1, h2', fun j hj => by rw [hext j (by rw [h3 j hj]; omega)]; exact h3 j hj, fun j hj => by rw [hext j (by rw [h4 j hj]; omega)]; exact h4 j hj⟩
      · rw [e]
        refine ⟨Or.inr ⟨kb, by simp only [kLen]; exact a1, by omega, a7.ks⟩, Or.inr ⟨vb, by simp only [vLen]; exact a2, by omega, a7.vs⟩, fun j hj => ?_, fun j hj => ?_⟩
        · simp only at hj; rw [a1] at hj
          have : kb = j := Option.some.inj hj
          rw [if_pos this.symm]
        · simp only at hj; rw [a2] at hj
          have : vb = j := Option.some.inj hj
          rw [if_neg (by omega), if_pos this.symm]
    · show (if j = kb then 10 + 2 * gs.length else if j = vb then 11 + 2 * gs.length else own j) = own j
      rw [if_neg (by omega), if_neg (by omega)]
/-- Behind a call of the document's first table. -/
theorem Sy.done (h : Sy w B own p q r s gs) {o : OpT} {rv : Value} (hd : DoE w w' B r.c r.kv r.vv r.L o rv) :
    ∃ rk ru r' own', rv = .agg #[.bool (doR r.L o).ok, .string (doR r.L o).val, rk, ru] ∧ Sy w' B own' p q r' s gs ∧ r'.c = r.c ∧ r'.L = doT r.L o ∧ w'.ownsRow w.heap.size 3 1 rk (doR r.L o).L.length (kCells (doR r.L o).L) ∧ w'.ownsRow w.heap.size 9 1 ru (doR r.L o).L.length (vCells (doR r.L o).L) ∧ Ext own own' w ∧ Fr (fun j => own j = 3) w w' := by
  obtain ⟨rk, ru, kv', vv', e1, e2, e3, e4, e5, e6, e7⟩ := hd
  have hz : ∀ j, w.heap.size ≤ j → own j = 0 := fun j hj => by
    rcases Nat.eq_zero_or_pos (own j) with e | e
    · exact e
    · have := (h.lt j (by omega)).2; omega
  have hf : Fr (fun j => own j = 3) w w' := e5.mono (fun j _ hj => by
    rcases hj with e | e | e
    · rw [e]; exact h.ro.1
    · exact h.ro.2.1 j e
    · exact h.ro.2.2 j e)
  have hgo : ∀ j, (kv'.ownBlock = some j ∨ vv'.ownBlock = some j) → own j = 3 ∨ w.heap.size ≤ j := fun j hj => by
    rcases hj with hj | hj
    · exact (e6 j hj).imp (h.ro.2.1 j) id
    · exact (e7 j hj).imp (h.ro.2.2 j) id
  have hext : ∀ j, own j ≠ 0 → (if kv'.ownBlock = some j ∨ vv'.ownBlock = some j then 3 else own j) = own j := fun j hj => by
    split
    · rename_i e
      rcases hgo j e with e2 | e2
      · exact e2.symm
      · exact absurd (hz j e2) hj
    · rfl
  have hext2 : ∀ j, j < w.heap.size → (if kv'.ownBlock = some j ∨ vv'.ownBlock = some j then 3 else own j) = own j := fun j hj => by
    split
    · rename_i e
      rcases hgo j e with e2 | e2
      · exact e2.symm
      · omega
    · rfl
  refine ⟨rk, ru, ⟨r.c, kv', vv', doT r.L o⟩, fun j => if kv'.ownBlock = some j ∨ vv'.ownBlock = some j then 3 else own j, e1, ⟨fun j hj => ?_, h.pt.fr hf (fun j hj => by rw [h.po j hj]; decide), fun j hj => by rw [hext j (by rw [h.po j hj]; decide)]; exact h.po j hj, h.qt.fr hf (fun j hj => by rw [h.qo j hj]; decide), fun j hj => by rw [hext j (by rw [h.qo j hj]; decide)]; exact h.qo j hj, e4, ⟨by rw [hext _ (by rw [h.ro.1]; decide)]; exact h.ro.1, fun j hj => by rw [if_pos (Or.inl hj)], fun j hj => by rw [if_pos (Or.inr hj)]⟩, h.st.fr hf (by rw [h.so.1]; decide) (fun j hj => by rw [h.so.2.1 j hj]; decide) (fun j hj => by rw [h.so.2.2 j hj]; decide), ⟨by rw [hext _ (by rw [h.so.1]; decide)]; exact h.so.1, fun j hj => by rw [hext j (by rw [h.so.2.1 j hj]; decide)]; exact h.so.2.1 j hj, fun j hj => by rw [hext j (by rw [h.so.2.2 j hj]; decide)]; exact h.so.2.2 j hj⟩, fun i hi => ?_⟩, rfl, rfl, e2, e3, hext2, hf⟩
  · by_cases e : kv'.ownBlock = some j ∨ vv'.ownBlock = some j
    · rcases e with e | e
      · exact World.ownsRow.lt e4.ks j e
      · exact World.ownsRow.lt e4.vs j e
    · rw [if_neg e] at hj
      exact ⟨(h.lt j hj).1, Nat.lt_of_lt_of_le (h.lt j hj).2 hf.size⟩
  · obtain ⟨h1, h2, h3, h4⟩ := h.k i hi
    exact ⟨h1.fr hf (fun j hj => by rw [h3 j hj]; omega), h2.fr hf (fun j hj => by rw [h4 j hj]; omega), fun j hj => by rw [hext j (by rw [h3 j hj]; omega)]; exact h3 j hj, fun j hj => by rw [hext j (by rw [h4 j hj]; omega)]; exact h4 j hj⟩
end
end Go.Proofs.Ytgcekpmkniipfaa
