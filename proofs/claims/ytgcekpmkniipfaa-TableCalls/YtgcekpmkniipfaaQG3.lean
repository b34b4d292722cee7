import Derived.Test.YtgcekpmkniipfaaQG1J
namespace Go.Proofs.Ytgcekpmkniipfaa
open Go.RowKit (wrap32 wrap64)
set_option linter.unusedVariables false
set_option linter.unusedSimpArgs false

/-! ### full rows -/
def Full (w : World) (B e : Nat) (v : Value) (xs : List Value) : Prop :=
  (v = .slice none 0 0 ∧ xs = []) ∨ ∃ g, v = .slice (some ⟨g, 0, none⟩) xs.length xs.length ∧ B ≤ g ∧ w.heap[g]? = some (.cells xs.toArray e)
theorem Full.row {w : World} {B e : Nat} {v : Value} {xs : List Value} (h : Full w B e v xs) (hl : xs.length ≤ maxLen) : w.ownsRow B e 1 v xs.length xs := by
  rcases h with ⟨rfl, rfl⟩ | ⟨g, rfl, hB, hg⟩
  · exact World.ownsRow_nil _ _ _ _
  · exact ⟨by omega, Or.inr ⟨g, xs.length, xs.toArray, rfl, hB, hg, Nat.le_refl _, hl, by simp, by simp⟩⟩
theorem Full.fr {S : Nat → Prop} {w w' : World} {B e : Nat} {v : Value} {xs : List Value} (h : Full w B e v xs) (f : Fr S w w') (hS : ∀ j, v.ownBlock = some j → ¬ S j) : Full w' B e v xs := by
  rcases h with h | ⟨g, rfl, hB, hg⟩
  · exact Or.inl h
  · exact Or.inr ⟨g, rfl, hB, (f.block g (heap_lt hg) (hS g rfl)).trans hg⟩
theorem Full.at {w : World} {B e : Nat} {v : Value} {xs : List Value} (h : Full w B e v xs) : RowAt w w.heap.size v xs := by
  rcases h with ⟨rfl, rfl⟩ | ⟨g, rfl, hB, hg⟩
  · exact RowAt.nil _ _
  · exact ⟨_, _, rfl, fun _ => ⟨g, 0, rfl, heap_lt hg, fun i hi => by rw [cell_of hg]; simp [hi]⟩⟩
theorem Full.some {w : World} {B e : Nat} {v : Value} {xs : List Value} (h : Full w B e v xs) (hp : 0 < xs.length) : ∃ g, v = .slice (some ⟨g, 0, none⟩) xs.length xs.length ∧ B ≤ g ∧ w.heap[g]? = some (.cells xs.toArray e) := by
  rcases h with ⟨-, rfl⟩ | h
  · simp at hp
  · exact h
theorem Full.len {w : World} {B e : Nat} {v : Value} {xs : List Value} (h : Full w B e v xs) : ∃ ad, v = .slice ad xs.length xs.length := by
  rcases h with ⟨rfl, rfl⟩ | ⟨g, rfl, -⟩
  · exact ⟨_, rfl⟩
  · exact ⟨_, rfl⟩
theorem Full.lt {w : World} {B e : Nat} {v : Value} {xs : List Value} (h : Full w B e v xs) : ∀ j, v.ownBlock = .some j → B ≤ j ∧ j < w.heap.size := by
  rcases h with ⟨rfl, rfl⟩ | ⟨g, rfl, hB, hg⟩
  · intro j hj; cases hj
  · intro j hj
    have : g = j := Option.some.inj hj
    subst this; exact ⟨hB, heap_lt hg⟩
theorem Full.set {w : World} {B e g : Nat} {n : Nat} {xs : List Value} (h : Full w B e (.slice (.some ⟨g, 0, none⟩) n n) xs) (j : Nat) (u : Value) : Full (w.setCell ⟨g, j, none⟩ u) B e (.slice (.some ⟨g, 0, none⟩) n n) (xs.set j u) := by
  rcases h with ⟨h, -⟩ | ⟨g', e', hB, hg⟩
  · cases h
  · injection e' with e1 e2 e3
    injection e1 with e1
    injection e1 with e1 _ _
    subst e1
    refine Or.inr ⟨g, by rw [List.length_set, ← e2], hB, ?_⟩
    rw [set_of hg, setArr]
theorem rebase {w : World} {B B' e n cap g : Nat} {xs : List Value} (h : w.ownsRow B e 1 (.slice (.some ⟨g, 0, none⟩) n cap) n xs) (hB : B' ≤ g) : w.ownsRow B' e 1 (.slice (.some ⟨g, 0, none⟩) n cap) n xs := by
  refine ⟨h.1, ?_⟩
  rcases h.2 with ⟨h2, -⟩ | ⟨g', cap', cur, e', h3, h4⟩
  · cases h2
  · have := e'
    injection this with e1 e2 e3
    injection e1 with e1
    injection e1 with e1 _ _
    subst e1
    exact Or.inr ⟨g, cap', cur, e', hB, h4⟩

/-- append onto a full row: a new block. -/
theorem full_append (t e : TypeId) (i : TypeInfo) (z : Value) (bytes : Nat) (ht : Try.prog.underlying t = some (.slice e)) (hi : Try.prog.info? e = some i) (hz : i.zero = some z) (hsize : i.size = 1) (hby : i.bytes = bytes) (hzs : z.cells.size = 1)
    (w : World) (B : Nat) (hB : B ≤ w.heap.size) (v : Value) (xs : List Value) (h : Full w B e v xs) (x : Value) (hx : x.oneCell' = true) (hl : (xs.length + 1) * bytes ≤ 140737488355328) (hm : xs.length + 1 ≤ maxLen) :
    ∃ cap w', (Builtin.append_ #[t, t] t #[v, .slice (.some ⟨w.heap.size, 0, none⟩) 1 1]).run Try.prog (w.alloc (.cells #[x] e)) = .ok (.slice (.some ⟨w.heap.size + 1, 0, none⟩) (xs.length + 1) cap) w' ∧ w'.ownsRow w.heap.size e 1 (.slice (.some ⟨w.heap.size + 1, 0, none⟩) (xs.length + 1) cap) (xs.length + 1) (xs ++ [x]) ∧ Fr (fun _ => False) w w' := by
  have hrow := World.ownsRow.alloc (h.row (by omega)) (.cells #[x] e)
  obtain ⟨g, cap, w', hr, hown, hgr, hw, -⟩ := run_append_lies (P := Try.prog) (w := w.alloc (.cells #[x] e)) t t B e i z 1 bytes ht hi hz hsize hby hzs (by omega) v xs.length xs hrow ⟨w.heap.size, 0, none⟩ 1 1 [x] rfl (one_new w x e) (by intro u hu; rw [List.mem_singleton.1 hu]; exact hx) (by omega) hm hl (by simp; omega) _ rfl
  have hm' : xs.length + 1 ≤ 9223372036854775807 := by simp only [maxLen] at hm; omega
  have key : g = w.heap.size + 1 ∧ Fr (fun _ => False) w w' := by
    rcases h with ⟨rfl, rfl⟩ | ⟨g0, rfl, hB0, hg0⟩
    · have h4 := run_append_nil (P := Try.prog) (w.alloc (.cells #[x] e)) t t e i z ht hi hz ⟨w.heap.size, 0, none⟩ 1 1 [x] (by rw [hsize]; rfl) (one_new w x e) (by omega) (by omega) (by rw [hby]; simp at hl; omega)
      rw [h4] at hr
      injection hr with q1 q2
      injection q1 with q1 _ _
      injection q1 with q1
      injection q1 with q1 _ _
      refine ⟨by rw [← q1]; simp, ?_⟩
      rw [← q2]
      exact (((Fr.refl _ w).alloc _).drew).alloc _
    · have hgl := heap_lt hg0
      have hg1 : (w.alloc (.cells #[x] e)).heap[g0]? = .some (.cells xs.toArray e) := (Go.RowKit.Below.heap_alloc w _ g0 hgl).trans hg0
      have h4 := run_append_grow (P := Try.prog) (w.alloc (.cells #[x] e)) t t e i z ht hi hz ⟨g0, 0, none⟩ xs.length xs.length xs (by rw [hsize]; simp) (fun j v hj => by rw [adr, cell_of hg1]; simpa using hj) ⟨w.heap.size, 0, none⟩ 1 1 [x] (by rw [hsize]; rfl) (one_new w x e) (by omega) (by omega) (by rw [hby]; exact growslice_fits (by omega) hl)
      rw [h4] at hr
      injection hr with q1 q2
      injection q1 with q1 _ _
      injection q1 with q1
      injection q1 with q1 _ _
      refine ⟨by rw [← q1]; simp, ?_⟩
      rw [← q2]
      exact (((Fr.refl _ w).alloc _).drew).alloc _
  obtain ⟨rfl, hF⟩ := key
  exact ⟨cap, w', hr, rebase hown (by omega), hF⟩

/-! ### answers that were kept -/
structure KR where
  rk : Value
  ru : Value
  R : RepT
def row4 (x : KR) : List Value := [.bool x.R.ok, .string x.R.val, x.rk, x.ru]
/-- Answers as they lie, one behind the other. -/
structure At4 (w : World) (g i : Nat) (x : KR) : Prop where
  c0 : w.cell? ⟨g, i * 4, none⟩ = .some (.bool x.R.ok)
  c1 : w.cell? ⟨g, i * 4 + 1, none⟩ = .some (.string x.R.val)
  c2 : w.cell? ⟨g, i * 4 + 2, none⟩ = .some x.rk
  c3 : w.cell? ⟨g, i * 4 + 3, none⟩ = .some x.ru
theorem At4.fr {S : Nat → Prop} {w w' : World} {g i : Nat} {x : KR} (h : At4 w g i x) (f : Fr S w w') (hg : g < w.heap.size) (hS : ¬ S g) : At4 w' g i x :=
  ⟨(f.cell hg hS).trans h.c0, (f.cell hg hS).trans h.c1, (f.cell hg hS).trans h.c2, (f.cell hg hS).trans h.c3⟩
def Rows4 (w : World) (lv : Value) (ls : List KR) : Prop := ∃ ad cap, lv = .slice ad ls.length cap ∧ (0 < ls.length → ∃ g, ad = .some ⟨g, 0, none⟩ ∧ g < w.heap.size ∧ ∀ i (h : i < ls.length), At4 w g i ls[i])

/-- The kept lists while they are written over. -/
structure Sp (w wr : World) (B : Nat) (own : Nat → Nat) (ls : List KR) (kc : Nat → List Int) (vc : Nat → List ByteArray) : Prop where
  fr : Fr (fun j => 10 ≤ own j) w wr
  k : ∀ i (h : i < ls.length), Full wr B 3 ls[i].rk ((kc i).map vI)
  v : ∀ i (h : i < ls.length), Full wr B 9 ls[i].ru ((vc i).map Value.string)
  ok : ∀ i (h : i < ls.length) (j : Nat), ls[i].rk.ownBlock = .some j → own j = 10 + 2 * i
  ov : ∀ i (h : i < ls.length) (j : Nat), ls[i].ru.ownBlock = .some j → own j = 11 + 2 * i
section
variable {w wr : World} {B : Nat} {own : Nat → Nat} {ls : List KR} {kc kc' : Nat → List Int} {vc vc' : Nat → List ByteArray}
theorem Sp.keep (h : Sp w wr B own ls kc vc) {w' : World} (f : Fr (fun _ => False) wr w') : Sp w w' B own ls kc vc :=
  ⟨h.fr.trans (f.mono (fun _ _ h => h.elim)), fun i hi => (h.k i hi).fr f (fun _ _ h => h), fun i hi => (h.v i hi).fr f (fun _ _ h => h), h.ok, h.ov⟩
theorem Sp.congr (h : Sp w wr B own ls kc vc) (hk : ∀ i, i < ls.length → kc' i = kc i) (hv : ∀ i, i < ls.length → vc' i = vc i) : Sp w wr B own ls kc' vc' :=
  ⟨h.fr, fun i hi => by rw [hk i hi]; exact h.k i hi, fun i hi => by rw [hv i hi]; exact h.v i hi, h.ok, h.ov⟩
theorem Sp.setK (h : Sp w wr B own ls kc vc) {i : Nat} (hi : i < ls.length) {g n : Nat} (hg : ls[i].rk = .slice (.some ⟨g, 0, none⟩) n n) (j : Nat) (x : Int) (hk : ∀ i', i' < ls.length → kc' i' = if i' = i then (kc i).set j x else kc i') : Sp w (wr.setCell ⟨g, j, none⟩ (vI x)) B own ls kc' vc := by
  have ho : own g = 10 + 2 * i := h.ok i hi g (by rw [hg]; rfl)
  have f := (Fr.refl (fun k => k = g) wr).setCell ⟨g, j, none⟩ (vI x) (Or.inl rfl)
  refine ⟨h.fr.setCell _ _ (Or.inl (by show 10 ≤ own g; omega)), fun i' hi' => ?_, fun i' hi' => ?_, h.ok, h.ov⟩
  · rw [hk i' hi']
    by_cases e : i' = i
    · subst e
      rw [if_pos rfl, List.map_set]
      have := h.k i' hi'
      rw [hg] at this ⊢
      exact this.set j (vI x)
    · rw [if_neg e]
      exact (h.k i' hi').fr f (fun b hb e2 => by have := h.ok i' hi' b hb; subst e2; omega)
  · exact (h.v i' hi').fr f (fun b hb e2 => by have := h.ov i' hi' b hb; subst e2; omega)
theorem Sp.setV (h : Sp w wr B own ls kc vc) {i : Nat} (hi : i < ls.length) {g n : Nat} (hg : ls[i].ru = .slice (.some ⟨g, 0, none⟩) n n) (j : Nat) (x : ByteArray) (hk : ∀ i', i' < ls.length → vc' i' = if i' = i then (vc i).set j x else vc i') : Sp w (wr.setCell ⟨g, j, none⟩ (.string x)) B own ls kc vc' := by
  have ho : own g = 11 + 2 * i := h.ov i hi g (by rw [hg]; rfl)
  have f := (Fr.refl (fun k => k = g) wr).setCell ⟨g, j, none⟩ (.string x) (Or.inl rfl)
  refine ⟨h.fr.setCell _ _ (Or.inl (by show 10 ≤ own g; omega)), fun i' hi' => ?_, fun i' hi' => ?_, h.ok, h.ov⟩
  · exact (h.k i' hi').fr f (fun b hb e2 => by have := h.ok i' hi' b hb; subst e2; omega)
  · rw [hk i' hi']
    by_cases e : i' = i
    · subst e
      rw [if_pos rfl, List.map_set]
      have := h.v i' hi'
      rw [hg] at this ⊢
      exact this.set j (.string x)
    · rw [if_neg e]
      exact (h.v i' hi').fr f (fun b hb e2 => by have := h.ov i' hi' b hb; subst e2; omega)
end
end Go.Proofs.Ytgcekpmkniipfaa
