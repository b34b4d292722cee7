import Derived.Test.YtngbakjalmgciaaGreatQQrJ
namespace Go.Proofs.YtngbakjalmgciaaGreat
open Go.RowKit (wrap32 wrap64)
set_option linter.unusedVariables false
set_option linter.unusedSimpArgs false

theorem info27 : (Tryz.prog.info? 23).map (fun i => (i.zero, i.size, i.bytes)) = some (some (.slice none 0 0), 1, 24) := by kernel_rfl
theorem info28 : (Tryz.prog.info? 40).map (fun i => (i.zero, i.size, i.bytes)) = some (some (.slice none 0 0), 1, 24) := by kernel_rfl
theorem under127 : Tryz.prog.underlying 75 = some (.slice 23) := by kernel_rfl
theorem under128 : Tryz.prog.underlying 76 = some (.slice 40) := by kernel_rfl

/-- A list that is gone on with by the same mark, q times so far. -/
def Ap (wi w' : World) (B e : Nat) (rk : Value) (xs : List Value) (x : Value) (q : Nat) (v : Value) : Prop :=
  (q = 0 ∧ v = rk ∧ Full w' B e rk xs) ∨ (0 < q ∧ w'.ownsRow wi.heap.size e 1 v (xs.length + q) (xs ++ List.replicate q x))
theorem Ap.keep {wi w' w2 : World} {B e : Nat} {rk x v : Value} {xs : List Value} {q : Nat} (h : Ap wi w' B e rk xs x q v) {S : Nat → Prop} (f : Fr S w' w2) (hS : ∀ j, v.ownBlock = some j → ¬ S j) : Ap wi w2 B e rk xs x q v := by
  rcases h with ⟨h1, rfl, h2⟩ | ⟨h1, h2⟩
  · exact Or.inl ⟨h1, rfl, h2.fr f hS⟩
  · exact Or.inr ⟨h1, ownsRow_fr h2 f hS⟩
theorem Ap.lt {wi w' : World} {B e : Nat} {rk x v : Value} {xs : List Value} {q : Nat} (h : Ap wi w' B e rk xs x q v) : ∀ j, v.ownBlock = some j → j < w'.heap.size := by
  rcases h with ⟨h1, rfl, h2⟩ | ⟨h1, h2⟩
  · exact fun j hj => (h2.lt j hj).2
  · exact fun j hj => (World.ownsRow.lt h2 j hj).2
theorem Ap.step {t e : TypeId} {i : TypeInfo} {z : Value} {bytes : Nat} (ht : Tryz.prog.underlying t = some (.slice e)) (hi : Tryz.prog.info? e = some i) (hz : i.zero = some z) (hsize : i.size = 1) (hby : i.bytes = bytes) (hzs : z.cells.size = 1)
    {wi w' : World} {B : Nat} {rk x v : Value} {xs : List Value} {q : Nat} (h : Ap wi w' B e rk xs x q v) (hF : Fr (fun _ => False) wi w') (hB : B ≤ w'.heap.size) (hx : x.oneCell' = true) (hl : (xs.length + q + 1) * bytes ≤ 140737488355328) (hm : xs.length + q + 1 ≤ maxLen) :
    ∃ g cap w2, (Builtin.append_ #[t, t] t #[v, .slice (some ⟨w'.heap.size, 0, none⟩) 1 1]).run Tryz.prog (w'.alloc (.cells #[x] e)) = .ok (.slice (some ⟨g, 0, none⟩) (xs.length + (q + 1)) cap) w2 ∧ Ap wi w2 B e rk xs x (q + 1) (.slice (some ⟨g, 0, none⟩) (xs.length + (q + 1)) cap) ∧ Fr (fun _ => False) wi w2 ∧ Fr (fun j => v.ownBlock = some j ∧ wi.heap.size ≤ j) w' w2 ∧ ((v.ownBlock = some g ∧ wi.heap.size ≤ g) ∨ w'.heap.size ≤ g) := by
  rcases h with ⟨rfl, rfl, h2⟩ | ⟨h1, h2⟩
  · obtain ⟨cap, w2, hr, hown, hf⟩ := full_append t e i z bytes ht hi hz hsize hby hzs w' B hB v xs h2 x hx (by simpa using hl) (by simpa using hm)
    refine ⟨_, cap, w2, hr, Or.inr ⟨by omega, ?_⟩, hF.trans hf, hf.mono (fun _ _ h => h.elim), Or.inr (by omega)⟩
    exact rebase hown (by have := hF.size; omega)
  · obtain ⟨g, cap, w2, hr, hown, hgr, hw, -⟩ := run_append_lies (P := Tryz.prog) (w := w'.alloc (.cells #[x] e)) t t wi.heap.size e i z 1 bytes ht hi hz hsize hby hzs (by omega) v (xs.length + q) _ (World.ownsRow.alloc h2 _) ⟨w'.heap.size, 0, none⟩ 1 1 [x] rfl (one_new w' x e) (by intro u hu; rw [List.mem_singleton.1 hu]; exact hx) (by omega) hm hl (by have := hF.size; simp; omega) _ rfl
    have hge := fun j hj => (World.ownsRow.lt h2 j hj).1
    refine ⟨g, cap, w2, hr, Or.inr ⟨by omega, ?_⟩, (hF.alloc _).under (grown_fr hgr) hge, (((Fr.refl _ w').alloc _).trans ((grown_fr hgr).mono (fun j _ hj => ⟨hj, hge j hj⟩))), ?_⟩
    · rw [List.replicate_succ', ← List.append_assoc]; exact hown
    · rcases hw with hw | hw
      · exact Or.inl ⟨hw, hge _ hw⟩
      · right; rw [hw]; simp

/-- The lists that were gone on with, so far. -/
structure Lp (w4 wr : World) (v8 v9 : Value) (ax bx : List Value) (fa fb : Nat → List Value) : Prop where
  fr : Fr (fun _ => False) w4 wr
  ra : wr.ownsRow w4.heap.size 23 1 v8 ax.length ax
  rb : wr.ownsRow w4.heap.size 40 1 v9 bx.length bx
  a : ∀ m (h : m < ax.length), RowAt wr wr.heap.size ax[m] (fa m)
  b : ∀ m (h : m < bx.length), RowAt wr wr.heap.size bx[m] (fb m)
  n1 : ∀ j, v8.ownBlock = some j → v9.ownBlock ≠ some j
  n2 : ∀ m (h : m < ax.length) (j : Nat), ax[m].ownBlock = some j → (v8.ownBlock ≠ some j ∧ v9.ownBlock ≠ some j) ∧ j < wr.heap.size
  n3 : ∀ m (h : m < bx.length) (j : Nat), bx[m].ownBlock = some j → (v8.ownBlock ≠ some j ∧ v9.ownBlock ≠ some j) ∧ j < wr.heap.size
theorem Lp.keep {w4 wr w' : World} {v8 v9 : Value} {ax bx : List Value} {fa fb : Nat → List Value} (h : Lp w4 wr v8 v9 ax bx fa fb) (f : Fr (fun _ => False) wr w') : Lp w4 w' v8 v9 ax bx fa fb :=
  ⟨h.fr.trans f, ownsRow_fr h.ra f (fun _ _ h => h), ownsRow_fr h.rb f (fun _ _ h => h), fun m hm => ((h.a m hm).fr f (Nat.le_refl _) (fun _ _ h => h)).mono f.size, fun m hm => ((h.b m hm).fr f (Nat.le_refl _) (fun _ _ h => h)).mono f.size, h.n1, fun m hm j e => ⟨(h.n2 m hm j e).1, Nat.lt_of_lt_of_le (h.n2 m hm j e).2 f.size⟩, fun m hm j e => ⟨(h.n3 m hm j e).1, Nat.lt_of_lt_of_le (h.n3 m hm j e).2 f.size⟩⟩
/-- Both lists of lists grow by one. -/
theorem Lp.more {w4 wi wr : World} {v8 v9 : Value} {ax bx : List Value} {fa fb : Nat → List Value} (h : Lp w4 wi v8 v9 ax bx fa fb) (hf : Fr (fun _ => False) wi wr) (va vb : Value) (ha : RowAt wr wr.heap.size va (fa ax.length)) (hb : RowAt wr wr.heap.size vb (fb bx.length)) (hsa : ∃ p q r, va = .slice p q r) (hsb : ∃ p q r, vb = .slice p q r) (hga : ∀ j, va.ownBlock = some j → wi.heap.size ≤ j ∧ j < wr.heap.size) (hgb : ∀ j, vb.ownBlock = some j → wi.heap.size ≤ j ∧ j < wr.heap.size) (hl : ax.length ≤ 10000000000) (hlb : bx.length ≤ 10000000000) :
    ∃ g1 c1 w2 g2 c2 w4', (Builtin.append_ #[75, 75] 75 #[v8, .slice (some ⟨wr.heap.size, 0, none⟩) 1 1]).run Tryz.prog (wr.alloc (.cells #[va] 23)) = .ok (.slice (some ⟨g1, 0, none⟩) (ax.length + 1) c1) w2 ∧
      (Builtin.append_ #[76, 76] 76 #[v9, .slice (some ⟨w2.heap.size, 0, none⟩) 1 1]).run Tryz.prog (w2.alloc (.cells #[vb] 40)) = .ok (.slice (some ⟨g2, 0, none⟩) (bx.length + 1) c2) w4' ∧ Lp w4 w4' (.slice (some ⟨g1, 0, none⟩) (ax.length + 1) c1) (.slice (some ⟨g2, 0, none⟩) (bx.length + 1) c2) (ax ++ [va]) (bx ++ [vb]) fa fb := by
  obtain ⟨i27, hi27, hz27, hs27, hb27⟩ := info_parts info27
  obtain ⟨i28, hi28, hz28, hs28, hb28⟩ := info_parts info28
  have h' := h.keep hf
  have hs := h'.fr.size
  have hsi := hf.size
  obtain ⟨g1, c1, w2, hr1, ho1, hg1, hw1, hlt1⟩ := run_append_lies (P := Tryz.prog) (w := wr.alloc (.cells #[va] 23)) 75 75 w4.heap.size 23 i27 (.slice none 0 0) 1 24 under127 hi27 hz27 hs27 hb27 rfl (by omega) v8 ax.length ax (World.ownsRow.alloc h'.ra _) ⟨wr.heap.size, 0, none⟩ 1 1 [va] rfl (one_new wr va 23) (by intro u hu; obtain ⟨p, q, r, e⟩ := hsa; rw [List.mem_singleton.1 hu, e]; rfl) (by omega) (by unfold maxLen; omega) (by omega) (by simp; omega) _ rfl
  have f1 : Fr (fun j => v8.ownBlock = some j) wr w2 := ((Fr.refl _ wr).alloc _).trans (grown_fr hg1)
  have rb2 := ownsRow_fr h'.rb f1 (fun j e1 e2 => h.n1 j e2 e1)
  have hs2 := f1.size
  obtain ⟨g2, c2, w3, hr2, ho2, hg2, hw2, hlt2⟩ := run_append_lies (P := Tryz.prog) (w := w2.alloc (.cells #[vb] 40)) 76 76 w4.heap.size 40 i28 (.slice none 0 0) 1 24 under128 hi28 hz28 hs28 hb28 rfl (by omega) v9 bx.length bx (World.ownsRow.alloc rb2 _) ⟨w2.heap.size, 0, none⟩ 1 1 [vb] rfl (one_new w2 vb 40) (by intro u hu; obtain ⟨p, q, r, e⟩ := hsb; rw [List.mem_singleton.1 hu, e]; rfl) (by omega) (by unfold maxLen; omega) (by omega) (by simp; omega) _ rfl
  have f2 : Fr (fun j => v9.ownBlock = some j) w2 w3 := ((Fr.refl _ w2).alloc _).trans (grown_fr hg2)
  have hv8lt : ∀ j, v8.ownBlock = some j → w4.heap.size ≤ j ∧ j < wi.heap.size := fun j hj => World.ownsRow.lt h.ra j hj
  have hv9lt : ∀ j, v9.ownBlock = some j → w4.heap.size ≤ j ∧ j < wi.heap.size := fun j hj => World.ownsRow.lt h.rb j hj
  have hg1n : v9.ownBlock ≠ some g1 := fun e => by
    rcases hw1 with e1 | e1
    · exact h.n1 g1 e1 e
    · have := (hv9lt g1 e).2
      simp at e1; omega
  have hg12 : g1 ≠ g2 := fun e => by
    subst e
    rcases hw2 with e2 | e2
    · exact hg1n e2
    · simp at e2; omega
  have f12 : Fr (fun j => v8.ownBlock = some j ∨ v9.ownBlock = some j) wr w3 := (f1.mono (fun _ _ e => Or.inl e)).trans (f2.mono (fun _ _ e => Or.inr e))
  have g1c : ∀ j, j < wr.heap.size → v8.ownBlock ≠ some j → g1 ≠ j := fun j hj hn e => by
    subst e
    rcases hw1 with e1 | e1
    · exact hn e1
    · simp at e1; omega
  have g2c : ∀ j, j < wr.heap.size → v9.ownBlock ≠ some j → g2 ≠ j := fun j hj hn e => by
    subst e
    rcases hw2 with e1 | e1
    · exact hn e1
    · simp at e1; omega
  have keepR : ∀ {v : Value} {xs : List Value}, RowAt wr wr.heap.size v xs → (∀ j, v.ownBlock = some j → v8.ownBlock ≠ some j ∧ v9.ownBlock ≠ some j) → RowAt w3 w3.heap.size v xs := fun {v xs} hv hn => (hv.fr f12 (Nat.le_refl _) (fun j e e2 => by
    rcases e2 with e2 | e2
    · exact (hn j e).1 e2
    · exact (hn j e).2 e2)).mono f12.size
  have hna : ∀ j, va.ownBlock = some j → v8.ownBlock ≠ some j ∧ v9.ownBlock ≠ some j := fun j e => ⟨fun e2 => by have := (hga j e).1; have := (hv8lt j e2).2; omega, fun e2 => by have := (hga j e).1; have := (hv9lt j e2).2; omega⟩
  have hnb : ∀ j, vb.ownBlock = some j → v8.ownBlock ≠ some j ∧ v9.ownBlock ≠ some j := fun j e => ⟨fun e2 => by have := (hgb j e).1; have := (hv8lt j e2).2; omega, fun e2 => by have := (hgb j e).1; have := (hv9lt j e2).2; omega⟩
  have hnew : ∀ {v : Value} (j : Nat), v.ownBlock = some j → j < wr.heap.size → (v8.ownBlock ≠ some j ∧ v9.ownBlock ≠ some j) → (Value.slice (some ⟨g1, 0, none⟩) (ax.length + 1) c1).ownBlock ≠ some j ∧ (Value.slice (some ⟨g2, 0, none⟩) (bx.length + 1) c2).ownBlock ≠ some j := fun {v} j e hj hn =>
    ⟨fun e2 => g1c j hj hn.1 (Option.some.inj e2), fun e2 => g2c j hj hn.2 (Option.some.inj e2)⟩
  refine ⟨g1, c1, w2, g2, c2, w3, hr1, hr2, ⟨?_, ?_, ?_, ?_, ?_, ?_, ?_, ?_⟩⟩
  · exact h'.fr.under f12 (fun j hj => by
      rcases hj with e | e
      · exact (hv8lt j e).1
      · exact (hv9lt j e).1)
  · have := ownsRow_fr ho1 f2 (fun j e1 e2 => by have : g1 = j := Option.some.inj e1; subst this; exact hg1n e2)
    rw [List.length_append]; exact this
  · rw [List.length_append]; exact ho2
  · intro m hm
    by_cases e : m < ax.length
    · rw [List.getElem_append_left e]; exact keepR (h'.a m e) (fun j ej => (h.n2 m e j ej).1)
    · have em : m = ax.length := by simp at hm; omega
      subst em
      have : (ax ++ [va])[ax.length] = va := by simp
      rw [this]; exact keepR ha hna
  · intro m hm
    by_cases e : m < bx.length
    · rw [List.getElem_append_left e]; exact keepR (h'.b m e) (fun j ej => (h.n3 m e j ej).1)
    · have em : m = bx.length := by simp at hm; omega
      subst em
      have : (bx ++ [vb])[bx.length] = vb := by simp
      rw [this]; exact keepR hb hnb
  · intro j e1 e2
    exact hg12 ((Option.some.inj e1).trans (Option.some.inj e2).symm)
  · intro m hm j ej
    by_cases e : m < ax.length
    · rw [List.getElem_append_left e] at ej
      have hh := h'.n2 m e j ej
      exact ⟨hnew j ej hh.2 hh.1, Nat.lt_of_lt_of_le hh.2 f12.size⟩
    · have em : m = ax.length := by simp at hm; omega
      subst em
      have e3 : (ax ++ [va])[ax.length] = va := by simp
      rw [e3] at ej
      exact ⟨hnew j ej (hga j ej).2 (hna j ej), Nat.lt_of_lt_of_le (hga j ej).2 f12.size⟩
  · intro m hm j ej
    by_cases e : m < bx.length
    · rw [List.getElem_append_left e] at ej
      have hh := h'.n3 m e j ej
      exact ⟨hnew j ej hh.2 hh.1, Nat.lt_of_lt_of_le hh.2 f12.size⟩
    · have em : m = bx.length := by simp at hm; omega
      subst em
      have e3 : (bx ++ [vb])[bx.length] = vb := by simp
      rw [e3] at ej
      exact ⟨hnew j ej (hgb j ej).2 (hnb j ej), Nat.lt_of_lt_of_le (hgb j ej).2 f12.size⟩
end Go.Proofs.YtngbakjalmgciaaGreat
