import Derived.Test.YtngbakjalmgciaaGreatQQrJ
import Derived.Test.YtngbakjalmgciaaGreatQG4
namespace Go.Proofs.YtngbakjalmgciaaGreat
set_option linter.unusedVariables false
set_option linter.unusedSimpArgs false

/-! ### the first one's lists are written over -/
def obl (mvs : List MV) : List (Option Nat) := mvs.flatMap (fun x => [x.kv.ownBlock, x.vv.ownBlock])
theorem obl_flat (mvs : List MV) : (obl mvs).filterMap id = (mvs.map mbk).flatten := by
  unfold obl
  induction mvs with
  | nil => rfl
  | cons x r ih =>
    rw [List.flatMap_cons, List.filterMap_append, ih, List.map_cons, List.flatten_cons]
    congr 1
    unfold mbk bks
    cases x.kv.ownBlock <;> cases x.vv.ownBlock <;> rfl
theorem idx_of : ∀ {l : List (Option Nat)} {a j : Nat}, (l.filterMap id).Nodup → l[a]? = some (some j) → l.idxOf (some j) = a
  | [], a, j, _, h => by simp at h
  | none :: r, 0, j, _, h => by simp at h
  | some x :: r, 0, j, _, h => by
    simp at h
    subst h
    simp
  | none :: r, a + 1, j, hn, h => by
    have := idx_of (l := r) (a := a) (j := j) (by simpa using hn) (by simpa using h)
    rw [List.idxOf_cons]
    simp [this]
  | some x :: r, a + 1, j, hn, h => by
    have h' : r[a]? = some (some j) := by simpa using h
    have hn' : (x :: r.filterMap id).Nodup := by simpa using hn
    have hx : x ∉ r.filterMap id := (List.nodup_cons.1 hn').1
    have := idx_of (l := r) (a := a) (j := j) (List.nodup_cons.1 hn').2 h'
    have hne : x ≠ j := fun e => hx (by rw [e]; exact List.mem_filterMap.2 ⟨some j, List.mem_of_getElem? h', rfl⟩)
    rw [List.idxOf_cons, this]
    have e : (some x == some j) = false := by simp [hne]
    rw [e]
    rfl
theorem obl_get (mvs : List MV) (i : Nat) (h : i < mvs.length) : (obl mvs)[2 * i]? = some mvs[i].kv.ownBlock ∧ (obl mvs)[2 * i + 1]? = some mvs[i].vv.ownBlock := by
  unfold obl
  induction mvs generalizing i with
  | nil => simp at h
  | cons x r ih =>
    cases i with
    | zero => exact ⟨rfl, rfl⟩
    | succ i =>
      have := ih i (by simpa using h)
      rw [List.flatMap_cons]
      have e1 : 2 * (i + 1) = 2 * i + 2 := by omega
      rw [e1]
      exact ⟨by simpa using this.1, by simpa using this.2⟩
def owP (mvs : List MV) (j : Nat) : Nat := if some j ∈ obl mvs then 10 + (obl mvs).idxOf (some j) else 0
theorem owP_k {mvs : List MV} (hn : ((mvs.map mbk).flatten).Nodup) {i : Nat} (h : i < mvs.length) {j : Nat} (hj : mvs[i].kv.ownBlock = some j) : owP mvs j = 10 + 2 * i := by
  have e := (obl_get mvs i h).1
  rw [hj] at e
  unfold owP
  rw [if_pos (List.mem_of_getElem? e), idx_of (by rw [obl_flat]; exact hn) e]
theorem owP_v {mvs : List MV} (hn : ((mvs.map mbk).flatten).Nodup) {i : Nat} (h : i < mvs.length) {j : Nat} (hj : mvs[i].vv.ownBlock = some j) : owP mvs j = 11 + 2 * i := by
  have e := (obl_get mvs i h).2
  rw [hj] at e
  unfold owP
  rw [if_pos (List.mem_of_getElem? e), idx_of (by rw [obl_flat]; exact hn) e]
  omega
theorem owP_lt {mvs : List MV} {H : Nat} (h : ∀ x ∈ mvs, ∀ j, (x.kv.ownBlock = some j ∨ x.vv.ownBlock = some j) → j < H) {j : Nat} (hj : 10 ≤ owP mvs j) : j < H := by
  unfold owP at hj
  split at hj
  · rename_i hm
    unfold obl at hm
    obtain ⟨x, hx, hy⟩ := List.mem_flatMap.1 hm
    simp at hy
    exact h x hx j (by rcases hy with e | e; exact Or.inl e.symm; exact Or.inr e.symm)
  · omega
theorem owP_ge {mvs : List MV} {H : Nat} (h : ∀ x ∈ mvs, ∀ j, (x.kv.ownBlock = some j ∨ x.vv.ownBlock = some j) → H ≤ j) {j : Nat} (hj : 10 ≤ owP mvs j) : H ≤ j := by
  unfold owP at hj
  split at hj
  · rename_i hm
    unfold obl at hm
    obtain ⟨x, hx, hy⟩ := List.mem_flatMap.1 hm
    simp at hy
    exact h x hx j (by rcases hy with e | e; exact Or.inl e.symm; exact Or.inr e.symm)
  · omega
theorem owP_far {mvs : List MV} {H : Nat} (h : ∀ x ∈ mvs, ∀ j, (x.kv.ownBlock = some j ∨ x.vv.ownBlock = some j) → j < H) {j : Nat} (hj : H ≤ j) : owP mvs j < 10 := by
  rcases Nat.lt_or_ge (owP mvs j) 10 with e | e
  · exact e
  · have := owP_lt h e; omega
def krOf (x : MV) : KR := ⟨x.kv, x.vv, x.m.rp⟩
theorem rep_full {w : World} {O : Nat → Prop} {B : Nat} {kv vv : Value} {L : List Kv} (h : RepAt w O B kv vv L) : Full w B 3 kv ((L.map Prod.fst).map vI) ∧ Full w B 9 vv ((L.map Prod.snd).map Value.string) := by
  rcases h with ⟨e1, e2, e3⟩ | ⟨kb, vb, e1, e2, b1, b2, -, -, hs⟩
  · rw [e1, e2, e3]; exact ⟨Or.inl ⟨rfl, rfl⟩, Or.inl ⟨rfl, rfl⟩⟩
  · refine ⟨Or.inr ⟨kb, by rw [e1]; simp, b1, ?_⟩, Or.inr ⟨vb, by rw [e2]; simp, b2, ?_⟩⟩
    · rw [hs.ks]; simp
    · rw [hs.vs]; simp
theorem row4_at {w : World} {B : Nat} {lv : Value} {mvs : List MV} (h : w.ownsRow B 42 4 lv mvs.length ((mvs.map r4).flatten)) : ∃ la lc, lv = .slice la mvs.length lc ∧ (0 < mvs.length → ∃ g, la = some ⟨g, 0, none⟩ ∧ B ≤ g ∧ g < w.heap.size ∧ ∀ i (hi : i < (mvs.map krOf).length), At4 w g i (mvs.map krOf)[i]) := by
  rcases h.2 with ⟨e1, e2⟩ | ⟨g, cap, cur, e, b1, b2, b3, b4, b5, b6⟩
  · exact ⟨none, 0, by rw [e1, e2], fun hp => by omega⟩
  · refine ⟨_, cap, e, fun _ => ⟨g, rfl, b1, heap_lt b2, fun i hi => ?_⟩⟩
    have hi' : i < mvs.length := by simpa using hi
    have hlen : ∀ r ∈ mvs.map r4, r.length = 4 := fun r hr => by obtain ⟨o, -, rfl⟩ := List.mem_map.1 hr; rfl
    have hc : ∀ j, j < 4 → w.cell? ⟨g, i * 4 + j, none⟩ = (r4 mvs[i])[j]? := fun j hj => by
      rw [cell_of b2]
      have e1 : cur[i * 4 + j]? = ((mvs.map r4).flatten)[i * 4 + j]? := by rw [← b6, List.getElem?_take, if_pos (by omega), Array.getElem?_toList]
      rw [e1, flat_get hlen i j (by simpa using hi') hj, List.getElem_map]
    rw [List.getElem_map]
    exact ⟨hc 0 (by omega), hc 1 (by omega), hc 2 (by omega), hc 3 (by omega)⟩
/-- spoilt, of two histories that are the same. -/
theorem spoil_plays (w : World) (B H Bl Bm : Nat) (O : Nat → Prop) (lv wv : Value) (mvs mws : List MV) (hl : w.ownsRow Bl 42 4 lv mvs.length ((mvs.map r4).flatten)) (hw : w.ownsRow Bm 42 4 wv mws.length ((mws.map r4).flatten)) (hm : mvs.map MV.m = mws.map MV.m)
    (hr : ∀ x ∈ mvs, RepAt w O B x.kv x.vv x.m.rp.L) (hnd : ((mvs.map mbk).flatten).Nodup) (hH : ∀ x ∈ mvs, ∀ j, (x.kv.ownBlock = some j ∨ x.vv.ownBlock = some j) → j < H) (hBl : H ≤ Bl) (hBm : H ≤ Bm)
    (hws : ∀ x ∈ mws, RowAt w w.heap.size x.kv (kCells x.m.rp.L) ∧ RowAt w w.heap.size x.vv (vCells x.m.rp.L) ∧ ∀ j, (x.kv.ownBlock = some j ∨ x.vv.ownBlock = some j) → H ≤ j) (hn : mvs.length ≤ 10000000000) (hL : ∀ m ∈ mvs.map MV.m, m.rp.L.length ≤ 2147483647) (hB : B ≤ w.heap.size) :
    Calls Tryz.prog 14 #[lv, wv] w fun e w' => e = .returned (.bool true) ∧ Fr (fun j => 10 ≤ owP mvs j) w w' := by
  have hml : mvs.length = mws.length := by have := congrArg List.length hm; simpa using this
  obtain ⟨la, lc, rfl, hla⟩ := row4_at hl
  obtain ⟨wa, wc, rfl, hwa⟩ := row4_at hw
  rw [← hml] at hw hwa ⊢
  have hS : Sp w w B (owP mvs) (mvs.map krOf) (fun i => (((mvs.map krOf).getD i ⟨.slice none 0 0, .slice none 0 0, rep0⟩).R.L.map Prod.fst)) (fun i => (((mvs.map krOf).getD i ⟨.slice none 0 0, .slice none 0 0, rep0⟩).R.L.map Prod.snd)) := by
    have hg : ∀ i (h : i < (mvs.map krOf).length), (mvs.map krOf).getD i ⟨.slice none 0 0, .slice none 0 0, rep0⟩ = (mvs.map krOf)[i] := fun i h => by rw [List.getD_eq_getElem?_getD, List.getElem?_eq_getElem h]; rfl
    refine ⟨Fr.refl _ _, fun i h => ?_, fun i h => ?_, fun i h j hj => ?_, fun i h j hj => ?_⟩
    · simp only [hg i h]
      rw [List.getElem_map]
      exact (rep_full (hr (mvs[i]'(by simpa using h)) (List.getElem_mem _))).1
    · simp only [hg i h]
      rw [List.getElem_map]
      exact (rep_full (hr (mvs[i]'(by simpa using h)) (List.getElem_mem _))).2
    · rw [List.getElem_map] at hj
      exact owP_k hnd (by simpa using h) hj
    · rw [List.getElem_map] at hj
      exact owP_v hnd (by simpa using h) hj
  refine (spoilt_any w la lc wa wc (mvs.map krOf) (mws.map krOf) B mvs.length (owP mvs) _ _ hS (by simp) (by simp [hml]) hn (fun hp => ?_) (fun hp => ?_) (fun i h => ?_) (fun i h h2 => ?_) hB).mono ?_
  · obtain ⟨g, e, b, l, c⟩ := hla hp
    exact ⟨g, e, l, owP_far hH (by omega), c⟩
  · obtain ⟨g, e, b, l, c⟩ := hwa (by omega)
    exact ⟨g, e, l, owP_far hH (by omega), c⟩
  · rw [List.getElem_map]
    obtain ⟨r1, r2, r3⟩ := hws (mws[i]'(by simpa using h)) (List.getElem_mem _)
    exact ⟨r1, r2, fun j hj => owP_far hH (r3 j (Or.inl hj)), fun j hj => owP_far hH (r3 j (Or.inr hj))⟩
  · have hg : (mvs.map krOf).getD i ⟨.slice none 0 0, .slice none 0 0, rep0⟩ = (mvs.map krOf)[i] := by rw [List.getD_eq_getElem?_getD, List.getElem?_eq_getElem h]; rfl
    have h' : i < mvs.length := by simpa using h
    have h2' : i < mws.length := by simpa using h2
    have em : mvs[i].m = mws[i].m := by
      have : (mvs.map MV.m)[i]? = (mws.map MV.m)[i]? := by rw [hm]
      rw [List.getElem?_map, List.getElem?_map, List.getElem?_eq_getElem h', List.getElem?_eq_getElem h2'] at this
      simpa using this
    simp only [hg, List.getElem_map]
    refine ⟨?_, trivial, trivial, ?_⟩
    · show mws[i].m.rp = mvs[i].m.rp; rw [em]
    · have := hL mvs[i].m (List.mem_map.2 ⟨_, List.getElem_mem _, rfl⟩)
      show mvs[i].m.rp.L.length ≤ _
      omega
  · rintro e w' ⟨h1, h2⟩
    exact ⟨h1, h2⟩
end Go.Proofs.YtngbakjalmgciaaGreat
