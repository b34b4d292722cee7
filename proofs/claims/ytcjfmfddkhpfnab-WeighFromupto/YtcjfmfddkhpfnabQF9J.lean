import Derived.Test.YtcjfmfddkhpfnabQF3J
import Derived.Deep.Onto
namespace Go.Proofs.Ytcjfmfddkhpfnab
open Go.RowKit (wrap32 wrap64)
set_option linter.unusedVariables false
set_option linter.unusedSimpArgs false

/-- The weights of two locations with one edge between. -/
def twoX (d : Int) (i : Nat) : Int := if i = 0 then 0 else d
theorem least_two {d : Int} (hd : d = 1 ∨ d = 2) : Least 2 [((0 : Int), (1 : Int), d)] [0] (twoX d) := by
  have hp : plusX 0 d = d := by rcases hd with rfl | rfl <;> decide
  refine ⟨fun r hr => ?_, fun a s k he => ?_, fun i hi => Or.inr ?_⟩
  · have : r = 0 := by simpa using hr
    subst this
    exact Int.le_refl _
  · simp at he
    obtain ⟨h1, h2, h3⟩ := he
    have h1 : a = 0 := by omega
    have h2 : s = 1 := by omega
    subst h1; subst h2; subst h3
    show k ≤ plusX 0 k
    rw [hp]
    exact Int.le_refl _
  · have r0 : Reach [((0 : Int), (1 : Int), d)] [0] 0 0 := .root (by simp)
    rcases (show i = 0 ∨ i = 1 by omega) with rfl | rfl
    · exact r0
    · have := Reach.step (es := [((0 : Int), (1 : Int), d)]) (rs := [0]) (e := ((0 : Int), (1 : Int), d)) (by simp) r0
      simp only [hp] at this
      exact this
theorem right_two {d : Int} (hd : d = 1 ∨ d = 2) : RightG 2 [((0 : Int), (1 : Int), d)] [0] := by rcases hd with rfl | rfl <;> decide

/-- From of it. -/
theorem from_two {d : Int} (hd : d = 1 ∨ d = 2) (ev rv : Value) (w : World) (hE : EdgesAt w.heap.size w ev [(0, 1, d)]) (hR : IntsAt w.heap.size w rv [0]) :
    Calls Try.prog 8 #[.int .i64 2, ev, rv] w fun e w' => ∃ b, e = .returned (.tuple #[.slice (some ⟨b, 0, none⟩) 2 2, vI 0]) ∧ w.heap.size ≤ b ∧ Row w' 3 b 2 (fun i => vI (twoX d i)) ∧ Fr (fun _ => False) w w' := by
  refine (from_any 2 ev rv _ _ w hE hR (by simp) (by simp)).mono ?_
  rintro e w' ⟨hF, ⟨hno, -⟩ | ⟨-, b, x, rfl, hb, hrow, hl⟩⟩
  · exact absurd (right_two hd) hno
  · exact ⟨b, rfl, hb, hrow.congr (fun i hi => by rw [Least.unique (n := 2) (right_two hd) hl (least_two hd) hi]), hF⟩

end Go.Proofs.Ytcjfmfddkhpfnab

namespace Go.Proofs.Ytcjfmfddkhpfnab
open Go.RowKit (wrap32 wrap64)
set_option linter.unusedVariables false
set_option linter.unusedSimpArgs false

theorem Fr.then {S S' : Nat → Prop} {a b c : World} (h : Fr S a b) (k : Fr S' b c) (hs : ∀ j, j < a.heap.size → S' j → S j) : Fr S a c :=
  h.anew k hs
theorem setCell_fr (w : World) (k o : Nat) (u : Value) : Fr (fun j => j = k) w (w.setCell ⟨k, o, none⟩ u) := Fr.setCell (S := fun j => j = k) (Fr.refl _ w) _ _ (Or.inl rfl)
theorem row_cell {w : World} {B e size n cap g : Nat} {xs : List Value} (h : w.ownsRow B e size (.slice (some ⟨g, 0, none⟩) n cap) n xs) {j : Nat} {u : Value} (hj : xs[j]? = some u) : w.cell? ⟨g, j, none⟩ = some u := by
  obtain ⟨h0, h1⟩ := h
  rcases h1 with ⟨e1, -⟩ | ⟨g', cap', cur, e1, k1, k2, k3, k4, k5, k6⟩
  · cases e1
  · cases e1
    have hjl := (List.getElem?_eq_some_iff.1 hj).1
    rw [cell_of k2, ← Array.getElem?_toList]
    rw [← k6] at hj
    rw [List.getElem?_take_of_lt (by omega)] at hj
    exact hj
theorem row_block {w : World} {B e size n cap g : Nat} {xs : List Value} (h : w.ownsRow B e size (.slice (some ⟨g, 0, none⟩) n cap) n xs) : ∃ cur, w.heap[g]? = some (.cells cur e) := by
  obtain ⟨h0, h1⟩ := h
  rcases h1 with ⟨e1, -⟩ | ⟨g', cap', cur, e1, k1, k2, k3⟩
  · cases e1
  · cases e1
    exact ⟨cur, k2⟩
theorem row_set {w : World} {B e size n cap g : Nat} {xs : List Value} (h : w.ownsRow B e size (.slice (some ⟨g, 0, none⟩) n cap) n xs) (j : Nat) (u : Value) : (w.setCell ⟨g, j, none⟩ u).ownsRow B e size (.slice (some ⟨g, 0, none⟩) n cap) n (xs.set j u) := by
  obtain ⟨h0, h1⟩ := h
  refine ⟨by simpa using h0, ?_⟩
  rcases h1 with ⟨e1, -⟩ | ⟨g', cap', cur, e1, k1, k2, k3, k4, k5, k6⟩
  · cases e1
  · cases e1
    refine Or.inr ⟨g, cap, cur.setIfInBounds j u, rfl, k1, set_of k2 j u, k3, k4, by simpa using k5, ?_⟩
    rw [← k6, Array.toList_setIfInBounds, List.take_set]
theorem row_shape {w : World} {B e size n : Nat} {v : Value} {xs : List Value} (h : w.ownsRow B e size v n xs) : ∃ ad cap, v = .slice ad n cap ∧ n ≤ cap ∧ (0 < n → ∃ g, ad = some ⟨g, 0, none⟩) := by
  rcases h.2 with ⟨e, rfl⟩ | ⟨g, cap, cur, e, -, -, hn, -⟩
  · exact ⟨_, _, e, Nat.le_refl _, fun h => absurd h (by omega)⟩
  · exact ⟨_, _, e, hn, fun _ => ⟨g, rfl⟩⟩

/-- A row of lists and a row of numbers lie in two blocks. -/
theorem rows_apart {w : World} {B B' : Nat} {v u : Value} {n m : Nat} {xs ys : List Value} (h : w.ownsRow B 29 1 v n xs) (k : w.ownsRow B' 3 1 u m ys) : ∀ j, u.ownBlock = some j → v.ownBlock ≠ some j := by
  intro j hu hv
  rcases h.2 with ⟨rfl, -⟩ | ⟨g, cap, cur, rfl, -, h2, -⟩
  · cases hv
  · rcases k.2 with ⟨rfl, -⟩ | ⟨g', cap', cur', rfl, -, k2, -⟩
    · cases hu
    · cases hv
      cases hu
      rw [h2] at k2
      cases k2

/-- A list of lists, each with where it lies. -/
structure Ls (w : World) (B : Nat) (v : Value) (us : List (Value × List Int)) : Prop where
  row : w.ownsRow B 29 1 v us.length (us.map (·.1))
  inn : ∀ p ∈ us, w.ownsRow B 3 1 p.1 p.2.length (p.2.map vI)

/-- The blocks of such a list. -/
def LsB (v : Value) (us : List (Value × List Int)) (k : Nat) : Prop := v.ownBlock = some k ∨ ∃ p ∈ us, p.1.ownBlock = some k

theorem Ls.fr {S : Nat → Prop} {w w' : World} {B : Nat} {v : Value} {us : List (Value × List Int)} (h : Ls w B v us) (f : Fr S w w') (hS : ∀ k, LsB v us k → ¬ S k) : Ls w' B v us :=
  ⟨ownsRow_fr h.row f (fun j e => hS j (Or.inl e)), fun p hp => ownsRow_fr (h.inn p hp) f (fun j e => hS j (Or.inr ⟨p, hp, e⟩))⟩
theorem Ls.lt {w : World} {B : Nat} {v : Value} {us : List (Value × List Int)} (h : Ls w B v us) {k : Nat} (hk : LsB v us k) : B ≤ k ∧ k < w.heap.size := by
  rcases hk with e | ⟨p, hp, e⟩
  · exact World.ownsRow.lt h.row k e
  · exact World.ownsRow.lt (h.inn p hp) k e

/-- append to a row of one's own; what else lies in its block ahead of its end stays. -/
theorem run_append_keeps {P : Program} (w : World) (t ty : TypeId) (base : Nat) (e : TypeId) (i : TypeInfo) (z : Value) (size bytes : Nat) (ht : P.underlying t = some (.slice e)) (hi : P.info? e = some i) (hz : i.zero = some z)
    (hsize : i.size = size) (hby : i.bytes = bytes) (hzs : z.cells.size = size) (hsz : 0 < size)
    (v : Value) (n : Nat) (xs : List Value) (hown : w.ownsRow base e size v n xs)
    (ad : Addr) (m c : Nat) (news : List Value) (hl : news.length = m * size) (hnews : ∀ j u, news[j]? = some u → w.cell? (ad.add j) = some u) (h1 : ∀ u ∈ news, u.oneCell' = true)
    (hm : 0 < m) (h63 : n + m ≤ maxLen) (hbytes : (n + m) * bytes ≤ 140737488355328) (hbase : base ≤ w.heap.size) (H : Nat) (hH : w.heap.size = H) :
    ∃ g cap w', (Builtin.append_ #[t, t] ty #[v, .slice (some ad) m c]).run P w = .ok (.slice (some ⟨g, 0, none⟩) (n + m) cap) w' ∧
      w'.ownsRow base e size (.slice (some ⟨g, 0, none⟩) (n + m) cap) (n + m) (xs ++ news) ∧ w.grownBy w' v.ownBlock ∧ (v.ownBlock = some g ∨ g = H) ∧ g < w'.heap.size ∧
      ∀ (B k cap0 g0 : Nat) (ys : List Value), w.ownsRow B e size (.slice (some ⟨g0, 0, none⟩) k cap0) k ys → (v.ownBlock = some g0 → k ≤ n) → w'.ownsRow B e size (.slice (some ⟨g0, 0, none⟩) k cap0) k ys := by
  obtain ⟨g, cap, w', hr, h2, h3, h4, h5⟩ := run_append_lies (P := P) w t ty base e i z size bytes ht hi hz hsize hby hzs hsz v n xs hown ad m c news hl hnews h1 hm h63 hbytes hbase H hH
  refine ⟨g, cap, w', hr, h2, h3, h4, h5, fun B k cap0 g0 ys hrow hk => ?_⟩
  by_cases hv : v.ownBlock = some g0
  · have hkn := hk hv
    rcases hown.2 with ⟨rfl, rfl⟩ | ⟨g1, cap1, cur, rfl, hbg, hg, hnc, hcm, hcs, htake⟩
    · cases hv
    · cases hv
      subst hsize
      rcases hrow.2 with ⟨e1, -⟩ | ⟨g2, cap2, cur2, e1, k1, k2, k3, k4, k5, k6⟩
      · cases e1
      · cases e1
        rw [hg] at k2
        cases k2
        by_cases hroom : n + m ≤ cap1
        · have hfit : n * i.size + news.length ≤ cur.size := by rw [hl, hcs, ← Nat.add_mul]; exact Nat.mul_le_mul_right _ hroom
          have hr2 := run_append_room (P := P) w t ty e i ht hi g1 n cap1 cur hg ad m c news hl hnews h1 hroom hfit
          have hw := hr.symm.trans hr2
          injection hw with hw1 hw2
          subst hw2
          refine ⟨hrow.1, Or.inr ⟨g1, cap0, _, rfl, k1, setRow_heap w g1 cur _ e _ hg, k3, k4, ?_, ?_⟩⟩
          · simp only [List.size_toArray, List.length_append, List.length_take, List.length_drop, Array.length_toList]
            omega
          · rw [← k6, List.append_assoc]
            have hle : k * i.size ≤ n * i.size := Nat.mul_le_mul_right _ hkn
            rw [List.take_append_of_le_length (by rw [List.length_take, Array.length_toList]; omega), List.take_take]
            congr 1
            omega
        · have holds : ∀ j u, xs[j]? = some u → w.cell? ((⟨g1, 0, none⟩ : Addr).add j) = some u := hown.cells (g := g1) rfl
          have hr2 := run_append_grow (P := P) w t ty e i z ht hi hz ⟨g1, 0, none⟩ n cap1 xs hown.1 holds ad m c news hl hnews (by omega) (by simp only [maxLen] at h63; omega) (growslice_fits (by omega) (by rw [hby]; exact hbytes))
          have hw := hr.symm.trans hr2
          injection hw with hw1 hw2
          subst hw2
          refine ⟨hrow.1, Or.inr ⟨g1, cap0, cur, rfl, k1, ?_, k3, k4, k5, k6⟩⟩
          exact (Go.RowKit.Below.heap_alloc w.drew _ g1 (heap_lt hg)).trans hg
  · exact ownsRow_fr hrow (grown_fr h3) (fun j ej e => by cases ej; exact hv e)

theorem wpList_append_keeps {P : Program} {w : World} {ops : Array Oper} {rest : List Oper} {o : Oper} {a : Act} {Q : Exit → Act → World → Prop} (hgd : o.guard = none) (s x : Operand) (t : TypeId)
    (ho : o.op = .call { callee := .builtin .append, args := #[s, x], argTypes := #[t, t] })
    (base : Nat) (e : TypeId) (i : TypeInfo) (z : Value) (size bytes : Nat) (ht : P.underlying t = some (.slice e)) (hi : P.info? e = some i) (hz : i.zero = some z)
    (hsize : i.size = size) (hby : i.bytes = bytes) (hzs : z.cells.size = size) (hsz : 0 < size)
    (v : Value) (n : Nat) (xs : List Value) (hs : a.eval s = v) (hown : w.ownsRow base e size v n xs)
    (ad : Addr) (m c : Nat) (news : List Value) (hx : a.eval x = .slice (some ad) m c) (hl : news.length = m * size) (hnews : ∀ j u, news[j]? = some u → w.cell? (ad.add j) = some u) (h1 : ∀ u ∈ news, u.oneCell' = true)
    (hm : 0 < m) (h63 : n + m ≤ maxLen) (hbytes : (n + m) * bytes ≤ 140737488355328) (hbase : base ≤ w.heap.size) (H : Nat) (hH : w.heap.size = H)
    (h : ∀ g cap w', w'.ownsRow base e size (.slice (some ⟨g, 0, none⟩) (n + m) cap) (n + m) (xs ++ news) → w.grownBy w' v.ownBlock → (v.ownBlock = some g ∨ g = H) → g < w'.heap.size →
      (∀ (B k cap0 g0 : Nat) (ys : List Value), w.ownsRow B e size (.slice (some ⟨g0, 0, none⟩) k cap0) k ys → (v.ownBlock = some g0 → k ≤ n) → w'.ownsRow B e size (.slice (some ⟨g0, 0, none⟩) k cap0) k ys) →
      wpList P ops Q rest (a.put o.dst (.slice (some ⟨g, 0, none⟩) (n + m) cap)) w') : wpList P ops Q (o :: rest) a w :=
  wpList_plain hgd fun _ hK => by
    obtain ⟨g, cap, w', hr, h2, h3, h4, h5, h6⟩ := run_append_keeps (P := P) w t o.type base e i z size bytes ht hi hz hsize hby hzs hsz v n xs hown ad m c news hl hnews h1 hm h63 hbytes hbase H hH
    unfold Oper.wp execOp
    simp only [ho, resolve, invoke, builtin, Sem.run_bind, Sem.run_pure, Result.andThen_ok, List.map_toArray, List.map_cons, List.map_nil, hs, hx, hr]
    exact hK _ _ (h g cap w' h2 h3 h4 h5 h6)


/-- The shelf: its block, its two lists of lists, made since w0. -/
structure Sh (w0 w : World) (wb : Nat) (lv mv : Value) (us us' : List (Value × List Int)) (sm : Int) : Prop where
  blk : w.heap[wb]? = some (.cells #[lv, mv, vI sm] 27)
  base : w0.heap.size ≤ wb
  ll : Ls w w0.heap.size lv us
  lm : Ls w w0.heap.size mv us'
  part : ∀ k, lv.ownBlock = some k → mv.ownBlock ≠ some k
  wl : ∀ k, (LsB lv us k ∨ LsB mv us' k) → k ≠ wb
  fr : Fr (fun _ => False) w0 w

section
variable {w0 w w' : World} {wb : Nat} {lv mv : Value} {us us' : List (Value × List Int)} {sm : Int}

theorem Sh.heads (h : Sh w0 w wb lv mv us us' sm) : w.cell? ⟨wb, 0, none⟩ = some lv ∧ w.cell? ⟨wb, 1, none⟩ = some mv ∧ w.cell? ⟨wb, 2, none⟩ = some (vI sm) := by
  simp only [cell_of h.blk]
  exact ⟨rfl, rfl, rfl⟩
theorem Sh.ltW (h : Sh w0 w wb lv mv us us' sm) {k : Nat} (hk : k = wb ∨ LsB lv us k ∨ LsB mv us' k) : w0.heap.size ≤ k ∧ k < w.heap.size := by
  rcases hk with rfl | e | e
  · exact ⟨h.base, heap_lt h.blk⟩
  · exact h.ll.lt e
  · exact h.lm.lt e

/-- Something else is written. -/
theorem Sh.upd {S : Nat → Prop} (h : Sh w0 w wb lv mv us us' sm) (f : Fr S w w') (hS : ∀ k, S k → k ≠ wb ∧ lv.ownBlock ≠ some k ∧ mv.ownBlock ≠ some k ∧ w0.heap.size ≤ k)
    (hu : ∀ p ∈ us, w'.ownsRow w0.heap.size 3 1 p.1 p.2.length (p.2.map vI)) (hu' : ∀ p ∈ us', w'.ownsRow w0.heap.size 3 1 p.1 p.2.length (p.2.map vI)) : Sh w0 w' wb lv mv us us' sm where
  blk := (f.block wb (heap_lt h.blk) (fun e => (hS _ e).1 rfl)).trans h.blk
  base := h.base
  ll := ⟨ownsRow_fr h.ll.row f (fun k e es => (hS k es).2.1 e), hu⟩
  lm := ⟨ownsRow_fr h.lm.row f (fun k e es => (hS k es).2.2.1 e), hu'⟩
  part := h.part
  wl := h.wl
  fr := h.fr.then f (fun j hj e => by have := (hS j e).2.2.2; omega)

theorem Sh.fr' {S : Nat → Prop} (h : Sh w0 w wb lv mv us us' sm) (f : Fr S w w') (hS : ∀ k, S k → k ≠ wb ∧ ¬ LsB lv us k ∧ ¬ LsB mv us' k ∧ w0.heap.size ≤ k) : Sh w0 w' wb lv mv us us' sm :=
  h.upd f (fun k hk => ⟨(hS k hk).1, fun e => (hS k hk).2.1 (Or.inl e), fun e => (hS k hk).2.2.1 (Or.inl e), (hS k hk).2.2.2⟩)
    (fun p hp => ownsRow_fr (h.ll.inn p hp) f (fun j e es => (hS j es).2.1 (Or.inr ⟨p, hp, e⟩)))
    (fun p hp => ownsRow_fr (h.lm.inn p hp) f (fun j e es => (hS j es).2.2.1 (Or.inr ⟨p, hp, e⟩)))

theorem Sh.keep (h : Sh w0 w wb lv mv us us' sm) (f : Fr (fun _ => False) w w') : Sh w0 w' wb lv mv us us' sm :=
  h.fr' f (fun _ e => e.elim)

theorem LsB.snoc {v v' : Value} {u : Value} {zs : List Int} {k : Nat} (h : LsB v' (us ++ [(u, zs)]) k) (hv : v'.ownBlock = some k → v.ownBlock = some k ∨ w.heap.size ≤ k) : LsB v us k ∨ w.heap.size ≤ k ∨ u.ownBlock = some k := by
  rcases h with e | ⟨p, hp, e⟩
  · rcases hv e with e | e
    · exact Or.inl (Or.inl e)
    · exact Or.inr (Or.inl e)
  · rcases List.mem_append.1 hp with hp | hp
    · exact Or.inl (Or.inr ⟨p, hp, e⟩)
    · simp at hp
      subst hp
      exact Or.inr (Or.inr e)

/-- One list more among those of L. -/
theorem Sh.growL {w6 : World} {v6 u : Value} {zs : List Int} (h : Sh w0 w wb lv mv us us' sm) (f : Fr (fun j => lv.ownBlock = some j) w w6) (hown : w6.ownsRow w0.heap.size 29 1 v6 (us.length + 1) (us.map (·.1) ++ [u]))
    (hat : ∀ j, v6.ownBlock = some j → lv.ownBlock = some j ∨ w.heap.size ≤ j) (hu : w.ownsRow w0.heap.size 3 1 u zs.length (zs.map vI)) (hfree : ∀ j, u.ownBlock = some j → j ≠ wb) :
    Sh w0 (w6.setCell ⟨wb, 0, none⟩ v6) wb v6 mv (us ++ [(u, zs)]) us' sm := by
  have fS : Fr (fun j => j = wb) w6 (w6.setCell ⟨wb, 0, none⟩ v6) := Fr.setCell (Fr.refl _ w6) _ _ (Or.inl rfl)
  have fT : Fr (fun j => lv.ownBlock = some j ∨ j = wb) w (w6.setCell ⟨wb, 0, none⟩ v6) := (f.mono (fun _ _ e => Or.inl e)).trans (fS.mono (fun _ _ e => Or.inr e))
  have hwb := heap_lt h.blk
  have nwl : lv.ownBlock ≠ some wb := fun e => h.wl wb (Or.inl (Or.inl e)) rfl
  have hb6 : w6.heap[wb]? = _ := (f.block wb hwb nwl).trans h.blk
  have v6wb : v6.ownBlock ≠ some wb := fun e => by
    rcases hat wb e with e | e
    · exact nwl e
    · omega
  refine ⟨set_of hb6 0 v6, h.base, ⟨?_, fun p hp => ?_⟩, ⟨ownsRow_fr h.lm.row fT (fun k e es => ?_), fun p hp => ?_⟩, fun k e e' => ?_, fun k hk => ?_, h.fr.then fT (fun j hj e => ?_)⟩
  · have := ownsRow_fr hown fS (fun j e ej => v6wb (ej ▸ e))
    rw [List.length_append, List.map_append]
    exact this
  · rcases List.mem_append.1 hp with hp | hp
    · refine ownsRow_fr (h.ll.inn p hp) fT (fun j e ej => ?_)
      rcases ej with ej | ej
      · exact rows_apart h.ll.row (h.ll.inn p hp) j e ej
      · exact h.wl j (Or.inl (Or.inr ⟨p, hp, e⟩)) ej
    · simp at hp
      subst hp
      refine ownsRow_fr hu fT (fun j e ej => ?_)
      rcases ej with ej | ej
      · exact rows_apart h.ll.row hu j e ej
      · exact (hfree j e) ej
  · rcases es with es | es
    · exact h.part k es e
    · exact h.wl k (Or.inr (Or.inl e)) es
  · refine ownsRow_fr (h.lm.inn p hp) fT (fun j e ej => ?_)
    rcases ej with ej | ej
    · exact rows_apart h.ll.row (h.lm.inn p hp) j e ej
    · exact h.wl j (Or.inr (Or.inr ⟨p, hp, e⟩)) ej
  · rcases hat k e with e | e
    · exact h.part k e e'
    · have := (World.ownsRow.lt h.lm.row k e').2; omega
  · intro ek
    subst ek
    rcases hk with hk | hk
    · rcases hk.snoc (hat k) with e | e | e
      · exact h.wl k (Or.inl e) rfl
      · omega
      · exact (hfree k e) rfl
    · exact h.wl k (Or.inr hk) rfl
  · rcases e with e | e
    · have := (World.ownsRow.lt h.ll.row j e).1; omega
    · have := h.base; omega

/-- One list more among those of M. -/
theorem Sh.growM {w6 : World} {v6 u : Value} {zs : List Int} (h : Sh w0 w wb lv mv us us' sm) (f : Fr (fun j => mv.ownBlock = some j) w w6) (hown : w6.ownsRow w0.heap.size 29 1 v6 (us'.length + 1) (us'.map (·.1) ++ [u]))
    (hat : ∀ j, v6.ownBlock = some j → mv.ownBlock = some j ∨ w.heap.size ≤ j) (hu : w.ownsRow w0.heap.size 3 1 u zs.length (zs.map vI)) (hfree : ∀ j, u.ownBlock = some j → j ≠ wb) :
    Sh w0 (w6.setCell ⟨wb, 1, none⟩ v6) wb lv v6 us (us' ++ [(u, zs)]) sm := by
  have fS : Fr (fun j => j = wb) w6 (w6.setCell ⟨wb, 1, none⟩ v6) := Fr.setCell (Fr.refl _ w6) _ _ (Or.inl rfl)
  have fT : Fr (fun j => mv.ownBlock = some j ∨ j = wb) w (w6.setCell ⟨wb, 1, none⟩ v6) := (f.mono (fun _ _ e => Or.inl e)).trans (fS.mono (fun _ _ e => Or.inr e))
  have hwb := heap_lt h.blk
  have nwl : mv.ownBlock ≠ some wb := fun e => h.wl wb (Or.inr (Or.inl e)) rfl
  have hb6 : w6.heap[wb]? = _ := (f.block wb hwb nwl).trans h.blk
  have v6wb : v6.ownBlock ≠ some wb := fun e => by
    rcases hat wb e with e | e
    · exact nwl e
    · omega
  refine ⟨set_of hb6 1 v6, h.base, ⟨ownsRow_fr h.ll.row fT (fun k e es => ?_), fun p hp => ?_⟩, ⟨?_, fun p hp => ?_⟩, fun k e e' => ?_, fun k hk => ?_, h.fr.then fT (fun j hj e => ?_)⟩
  · rcases es with es | es
    · exact h.part k e es
    · exact h.wl k (Or.inl (Or.inl e)) es
  · refine ownsRow_fr (h.ll.inn p hp) fT (fun j e ej => ?_)
    rcases ej with ej | ej
    · exact rows_apart h.lm.row (h.ll.inn p hp) j e ej
    · exact h.wl j (Or.inl (Or.inr ⟨p, hp, e⟩)) ej
  · have := ownsRow_fr hown fS (fun j e ej => v6wb (ej ▸ e))
    rw [List.length_append, List.map_append]
    exact this
  · rcases List.mem_append.1 hp with hp | hp
    · refine ownsRow_fr (h.lm.inn p hp) fT (fun j e ej => ?_)
      rcases ej with ej | ej
      · exact rows_apart h.lm.row (h.lm.inn p hp) j e ej
      · exact h.wl j (Or.inr (Or.inr ⟨p, hp, e⟩)) ej
    · simp at hp
      subst hp
      refine ownsRow_fr hu fT (fun j e ej => ?_)
      rcases ej with ej | ej
      · exact rows_apart h.lm.row hu j e ej
      · exact (hfree j e) ej
  · rcases hat k e' with e' | e'
    · exact h.part k e e'
    · have := (World.ownsRow.lt h.ll.row k e).2; omega
  · intro ek
    subst ek
    rcases hk with hk | hk
    · exact h.wl k (Or.inl hk) rfl
    · rcases hk.snoc (hat k) with e | e | e
      · exact h.wl k (Or.inr e) rfl
      · omega
      · exact (hfree k e) rfl
  · rcases e with e | e
    · have := (World.ownsRow.lt h.lm.row j e).1; omega
    · have := h.base; omega

end

/-- A list that is lengthened beside the world: where it may lie. -/
def Gr (w0 wS w : World) (l : Value) (wb : Nat) (lv mv : Value) (us us' : List (Value × List Int)) (u : Value) (xs : List Int) : Prop :=
  w.ownsRow w0.heap.size 3 1 u xs.length (xs.map vI) ∧ ∀ j, u.ownBlock = some j → j ≠ wb ∧ lv.ownBlock ≠ some j ∧ mv.ownBlock ≠ some j ∧ (l.ownBlock = some j ∨ wS.heap.size ≤ j) ∧ ∀ p, p ∈ us ∨ p ∈ us' → p.1.ownBlock = some j → p.2.length ≤ xs.length

section
variable {w0 wS w w6 : World} {l : Value} {wb : Nat} {lv mv : Value} {us us' : List (Value × List Int)} {sm : Int}

theorem Sh.longer (h : Sh w0 w wb lv mv us us' sm) (hs : wS.heap.size ≤ w.heap.size) {u : Value} {xs : List Int} {x : Int} {g6 cap6 : Nat} (hu : Gr w0 wS w l wb lv mv us us' u xs)
    (hown : w6.ownsRow w0.heap.size 3 1 (.slice (some ⟨g6, 0, none⟩) (xs.length + 1) cap6) (xs.length + 1) (xs.map vI ++ [vI x])) (hgrow : w.grownBy w6 u.ownBlock) (hat : u.ownBlock = some g6 ∨ w.heap.size ≤ g6)
    (keeps : ∀ (B k cap0 g0 : Nat) (ys : List Value), w.ownsRow B 3 1 (.slice (some ⟨g0, 0, none⟩) k cap0) k ys → (u.ownBlock = some g0 → k ≤ xs.length) → w6.ownsRow B 3 1 (.slice (some ⟨g0, 0, none⟩) k cap0) k ys) :
    Sh w0 w6 wb lv mv us us' sm ∧ Gr w0 wS w6 l wb lv mv us us' (.slice (some ⟨g6, 0, none⟩) (xs.length + 1) cap6) (xs ++ [x]) ∧
      ∀ (u' : Value) (ys : List Int), Gr w0 wS w l wb lv mv us us' u' ys → (∀ j, u.ownBlock = some j → u'.ownBlock ≠ some j) → Gr w0 wS w6 l wb lv mv us us' u' ys ∧ ∀ j, (Value.slice (some ⟨g6, 0, none⟩) (xs.length + 1) cap6).ownBlock = some j → u'.ownBlock ≠ some j := by
  have keepRow : ∀ (v : Value) (n : Nat) (ys : List Value), w.ownsRow w0.heap.size 3 1 v n ys → (∀ j, v.ownBlock = some j → u.ownBlock = some j → n ≤ xs.length) → w6.ownsRow w0.heap.size 3 1 v n ys := fun v n ys hr hj => by
    rcases hr.2 with h2 | ⟨g, cap, cur, rfl, h3⟩
    · exact ⟨hr.1, Or.inl h2⟩
    · exact keeps w0.heap.size n cap g ys hr (hj g rfl)
  refine ⟨h.upd (grown_fr hgrow) (fun k e => ?_) (fun p hp => ?_) (fun p hp => ?_), ⟨?_, fun j e => ?_⟩, fun u' ys hu' hap => ⟨⟨?_, hu'.2⟩, fun j e e' => ?_⟩⟩
  · obtain ⟨a1, a2, a3, -⟩ := hu.2 k e
    exact ⟨a1, a2, a3, (World.ownsRow.lt hu.1 k e).1⟩
  · exact keepRow _ _ _ (h.ll.inn p hp) (fun j e1 e2 => (hu.2 j e2).2.2.2.2 p (Or.inl hp) e1)
  · exact keepRow _ _ _ (h.lm.inn p hp) (fun j e1 e2 => (hu.2 j e2).2.2.2.2 p (Or.inr hp) e1)
  · rw [List.length_append, List.map_append]
    exact hown
  · have e : g6 = j := by cases e; rfl
    subst e
    rcases hat with e | e
    · obtain ⟨a1, a2, a3, a4, a5⟩ := hu.2 g6 e
      exact ⟨a1, a2, a3, a4, fun p hp ep => by have := a5 p hp ep; rw [List.length_append]; omega⟩
    · refine ⟨fun e2 => ?_, fun e2 => ?_, fun e2 => ?_, Or.inr (by omega), fun p hp ep => ?_⟩
      · have := heap_lt h.blk; omega
      · have := (World.ownsRow.lt h.ll.row g6 e2).2; omega
      · have := (World.ownsRow.lt h.lm.row g6 e2).2; omega
      · rcases hp with hp | hp
        · have := (World.ownsRow.lt (h.ll.inn p hp) g6 ep).2; omega
        · have := (World.ownsRow.lt (h.lm.inn p hp) g6 ep).2; omega
  · exact keepRow _ _ _ hu'.1 (fun j e1 e2 => absurd e1 (hap j e2))
  · have e : g6 = j := by cases e; rfl
    subst e
    rcases hat with e | e
    · exact hap g6 e e'
    · have := (World.ownsRow.lt hu'.1 g6 e').2; omega

theorem Gr.fr {S : Nat → Prop} {w' : World} {u : Value} {xs : List Int} (h : Gr w0 wS w l wb lv mv us us' u xs) (f : Fr S w w') (hS : ∀ j, u.ownBlock = some j → ¬ S j) : Gr w0 wS w' l wb lv mv us us' u xs := ⟨ownsRow_fr h.1 f hS, h.2⟩
end


end Go.Proofs.Ytcjfmfddkhpfnab

namespace Go.Proofs.Ytcjfmfddkhpfnab
open Go.RowKit (wrap32 wrap64)
set_option linter.unusedVariables false
set_option linter.unusedSimpArgs false

/-- What From tells, as numbers and an error. -/
def FromR (n : Int) (es : List Ed) (rs : List Int) (zs : List Int) (er : Int) : Prop :=
  (¬ RightG n es rs ∧ zs = [] ∧ er = 1) ∨ (RightG n es rs ∧ er = 0 ∧ ∃ x, zs = (List.range n.toNat).map x ∧ Least n.toNat es rs x)
theorem FromR.unique {n : Int} {es : List Ed} {rs : List Int} {zs zs' : List Int} {er er' : Int} (h : FromR n es rs zs er) (k : FromR n es rs zs' er') : zs' = zs ∧ er' = er := by
  rcases h with ⟨h1, h2, h3⟩ | ⟨h1, h2, x, h3, h4⟩ <;> rcases k with ⟨k1, k2, k3⟩ | ⟨k1, k2, y, k3, k4⟩
  · exact ⟨by rw [h2, k2], by rw [h3, k3]⟩
  · exact absurd k1 h1
  · exact absurd h1 k1
  · have hn : ((n.toNat : Nat) : Int) = n := Int.toNat_of_nonneg h1.1.1
    have h1' : RightG (n.toNat : Nat) es rs := by rw [hn]; exact h1
    exact ⟨by rw [h3, k3]; exact map_least h1' k4 h4, by rw [h2, k2]⟩
theorem FromR.len {n : Int} {es : List Ed} {rs : List Int} {zs : List Int} {er : Int} (h : FromR n es rs zs er) : zs.length ≤ 1048576 := by
  rcases h with ⟨h1, h2, h3⟩ | ⟨h1, h2, x, h3, h4⟩
  · rw [h2]; simp
  · have := h1.1; rw [h3, List.length_map, List.length_range]; omega

/-- A row of a block of its own. -/
theorem Row.own {w : World} {b m : Nat} {f : Nat → Int} (h : Row w 3 b m (fun i => vI (f i))) {B : Nat} (hB : B ≤ b) (hm : m ≤ 1048576) : OwnI w B (.slice (some ⟨b, 0, none⟩) m m) ((List.range m).map f) := by
  obtain ⟨cs, h1, h2, h3⟩ := h
  refine ⟨by simp, Or.inr ⟨b, m, cs, by simp, hB, h1, by simp, by unfold maxLen; omega, by omega, ?_⟩⟩
  rw [List.length_map, List.length_range, Nat.mul_one, ← h2, ← Array.length_toList, List.take_length, List.map_map]
  apply List.ext_getElem?
  intro i
  rcases Nat.lt_or_ge i m with hi | hi
  · rw [Array.getElem?_toList, h3 i hi]
    simp [h2, hi]
  · rw [List.getElem?_eq_none (by simp; omega), List.getElem?_eq_none (by simp; omega)]

/-- From, with what it tells. -/
theorem from_own (n : Int) (ev rv : Value) (es : List Ed) (rs : List Int) (w : World) (hE : EdgesAt w.heap.size w ev es) (hR : IntsAt w.heap.size w rv rs) (hel : es.length ≤ 5000000000000) (hrl : rs.length ≤ 5000000000000) :
    Calls Try.prog 8 #[.int .i64 n, ev, rv] w fun e w' => ∃ v zs er, e = .returned (.tuple #[v, vI er]) ∧ FromR n es rs zs er ∧ OwnI w' w.heap.size v zs ∧ Fr (fun _ => False) w w' := by
  refine (from_any n ev rv es rs w hE hR (by omega) (by omega)).mono ?_
  rintro e w' ⟨hF, ⟨hno, rfl⟩ | ⟨hG, b, x, rfl, hb, hrow, hl⟩⟩
  · exact ⟨_, [], 1, rfl, Or.inl ⟨hno, rfl, rfl⟩, OwnI.nil _ _, hF⟩
  · exact ⟨_, _, 0, rfl, Or.inr ⟨hG, rfl, x, rfl, hl⟩, hrow.own hb (by have := hG.1; omega), hF⟩
theorem from_as {n : Int} {es : List Ed} {rs zs : List Int} {er : Int} (hz : FromR n es rs zs er) (ev rv : Value) (w : World) (hE : EdgesAt w.heap.size w ev es) (hR : IntsAt w.heap.size w rv rs) (hel : es.length ≤ 5000000000000) (hrl : rs.length ≤ 5000000000000) :
    Calls Try.prog 8 #[.int .i64 n, ev, rv] w fun e w' => ∃ v, e = .returned (.tuple #[v, vI er]) ∧ OwnI w' w.heap.size v zs ∧ Fr (fun _ => False) w w' := by
  refine (from_own n ev rv es rs w hE hR hel hrl).mono ?_
  rintro e w' ⟨v, zs', er', rfl, hf, hO, hF⟩
  obtain ⟨rfl, rfl⟩ := hz.unique hf
  exact ⟨v, rfl, hO, hF⟩
/-- The document's From, and where its answer lies. -/
theorem rfrom_any2 (n : Int) (ev rv : Value) (es : List Ed) (rs : List Int) (w : World) (hE : EdgesAt w.heap.size w ev es) (hR : IntsAt w.heap.size w rv rs) (hel : es.length ≤ 11000000000000) (hrl : rs.length ≤ 100000000000000) :
    Calls Try.prog 12 #[.int .i64 n, ev, rv] w fun e w' => Fr (fun _ => False) w w' ∧ ((¬ RightG n es rs ∧ e = .returned (.tuple #[.slice none 0 0, vI 1])) ∨
      (RightG n es rs ∧ ∃ v x, e = .returned (.tuple #[v, vI 0]) ∧ (∀ k, v.ownBlock = some k → w.heap.size ≤ k ∧ k < w'.heap.size) ∧ IntsAt w'.heap.size w' v ((List.range n.toNat).map x) ∧ Least n.toNat es rs x)) := by
  by_cases hG : RightG n es rs
  · obtain ⟨m, rfl⟩ : ∃ m : Nat, n = m := ⟨n.toNat, by have := hG.1.1; omega⟩
    rcases Nat.eq_zero_or_pos m with rfl | hm
    · refine (rfrom_zero ev rv es rs w hE hR hel hrl hG).mono ?_
      rintro e w' ⟨rfl, hF⟩
      have he : es = [] := by
        rcases es with - | ⟨e, r⟩
        · rfl
        · have := (hG.2.1 e List.mem_cons_self).1; omega
      have hr : rs = [] := by
        rcases rs with - | ⟨e, r⟩
        · rfl
        · have := hG.2.2 e List.mem_cons_self; omega
      subst he
      subst hr
      exact ⟨hF, Or.inr ⟨hG, .slice none 0 0, fun _ => 9, rfl, (fun k h => by cases h), ⟨none, 0, rfl, Nat.le_refl _, fun h => absurd rfl h⟩, ⟨fun r h => absurd h List.not_mem_nil, fun d s k h => absurd h List.not_mem_nil, fun i hi => Or.inl rfl⟩⟩⟩
    · refine (rfrom_pos m hm ev rv es rs w hE hR hel hrl hG).mono ?_
      rintro e w' ⟨hF, g, cap, x, rfl, hc, hg, hI, hL⟩
      refine ⟨hF, Or.inr ⟨hG, _, x, rfl, (fun k h => by
        cases h
        refine ⟨hg, ?_⟩
        obtain ⟨a, c, e1, -, hk⟩ := hI
        obtain ⟨k, o, e2, hk2, -⟩ := hk (by intro e; have := congrArg List.length e; simp at this; omega)
        rw [e2] at e1
        injection e1 with e3
        injection e3 with e4
        injection e4 with e5
        simp only at e5 ⊢; rw [e5]; exact hk2), by rw [Int.toNat_natCast]; exact hI, by rw [Int.toNat_natCast]; exact hL⟩⟩
  · refine (rfrom_bad n ev rv es rs w hE hR hel hrl hG).mono ?_
    rintro e w' ⟨rfl, hF⟩
    exact ⟨hF, Or.inl ⟨hG, rfl⟩⟩

/-- The document's. -/
theorem rfrom_as {n : Int} {es : List Ed} {rs zs : List Int} {er : Int} (hz : FromR n es rs zs er) (ev rv : Value) (w : World) (hE : EdgesAt w.heap.size w ev es) (hR : IntsAt w.heap.size w rv rs) (hel : es.length ≤ 5000000000000) (hrl : rs.length ≤ 5000000000000) :
    Calls Try.prog 12 #[.int .i64 n, ev, rv] w fun e w' => ∃ v, e = .returned (.tuple #[v, vI er]) ∧ IntsAt w'.heap.size w' v zs ∧ (∀ k, v.ownBlock = some k → w.heap.size ≤ k ∧ k < w'.heap.size) ∧ Fr (fun _ => False) w w' := by
  refine (rfrom_any2 n ev rv es rs w hE hR (by omega) (by omega)).mono ?_
  rintro e w' ⟨hF, ⟨hno, rfl⟩ | ⟨hG, v, x, rfl, hb, hI, hl⟩⟩
  · obtain ⟨rfl, rfl⟩ := hz.unique (Or.inl ⟨hno, rfl, rfl⟩)
    exact ⟨_, rfl, ⟨none, 0, rfl, Nat.le_refl _, fun h => absurd rfl h⟩, (fun k h => by cases h), hF⟩
  · obtain ⟨rfl, rfl⟩ := hz.unique (Or.inr ⟨hG, rfl, x, rfl, hl⟩)
    exact ⟨v, rfl, hI, hb, hF⟩
/-- The document's, asked first. -/
theorem rfrom_own (n : Int) (ev rv : Value) (es : List Ed) (rs : List Int) (w : World) (hE : EdgesAt w.heap.size w ev es) (hR : IntsAt w.heap.size w rv rs) (hel : es.length ≤ 5000000000000) (hrl : rs.length ≤ 5000000000000) :
    Calls Try.prog 12 #[.int .i64 n, ev, rv] w fun e w' => ∃ v zs er, e = .returned (.tuple #[v, vI er]) ∧ FromR n es rs zs er ∧ IntsAt w'.heap.size w' v zs ∧ (∀ k, v.ownBlock = some k → w.heap.size ≤ k ∧ k < w'.heap.size) ∧ Fr (fun _ => False) w w' := by
  refine (rfrom_any2 n ev rv es rs w hE hR (by omega) (by omega)).mono ?_
  rintro e w' ⟨hF, ⟨hno, rfl⟩ | ⟨hG, v, x, rfl, hb, hI, hl⟩⟩
  · exact ⟨_, [], 1, rfl, Or.inl ⟨hno, rfl, rfl⟩, ⟨none, 0, rfl, Nat.le_refl _, fun h => absurd rfl h⟩, (fun k h => by cases h), hF⟩
  · exact ⟨v, _, 0, rfl, Or.inr ⟨hG, rfl, x, rfl, hl⟩, hI, hb, hF⟩

/-- The first of a row's. -/
theorem OwnE.front {w : World} {B : Nat} {ad : Option Addr} {cap : Nat} {es ms : List Ed} (h : OwnE w B (.slice ad (es ++ ms).length cap) (es ++ ms)) (hm : ms ≠ []) : ∃ g, ad = some ⟨g, 0, none⟩ ∧ OwnE w B (.slice (some ⟨g, 0, none⟩) es.length cap) es := by
  have hml : 0 < ms.length := List.length_pos_iff.2 hm
  rcases h.2 with ⟨h2, h3⟩ | ⟨g, cap', cur, e, h3, h4, h5, h6, h7, h8⟩
  · rw [List.length_append] at h3; omega
  · cases e
    refine ⟨g, rfl, by rw [eCells_length], Or.inr ⟨g, cap, cur, rfl, h3, h4, by rw [List.length_append] at h5; omega, h6, h7, ?_⟩⟩
    have e1 : cur.toList.take (es.length * 3) = (cur.toList.take ((es ++ ms).length * 3)).take (es.length * 3) := by
      rw [List.take_take]; congr 1; rw [List.length_append]; omega
    rw [e1, h8, eCells_append, List.take_append_of_le_length (by rw [eCells_length]; omega), ← eCells_length, List.take_length]
theorem OwnI.front {w : World} {B : Nat} {ad : Option Addr} {cap : Nat} {es ms : List Int} (h : OwnI w B (.slice ad (es ++ ms).length cap) (es ++ ms)) (hm : ms ≠ []) : ∃ g, ad = some ⟨g, 0, none⟩ ∧ OwnI w B (.slice (some ⟨g, 0, none⟩) es.length cap) es := by
  have hml : 0 < ms.length := List.length_pos_iff.2 hm
  rcases h.2 with ⟨h2, h3⟩ | ⟨g, cap', cur, e, h3, h4, h5, h6, h7, h8⟩
  · rw [List.length_append] at h3; omega
  · cases e
    refine ⟨g, rfl, by simp, Or.inr ⟨g, cap, cur, rfl, h3, h4, by rw [List.length_append] at h5; omega, h6, h7, ?_⟩⟩
    have e1 : cur.toList.take (es.length * 1) = (cur.toList.take ((es ++ ms).length * 1)).take (es.length * 1) := by
      rw [List.take_take]; congr 1; rw [List.length_append]; omega
    rw [e1, h8, List.map_append, List.take_append_of_le_length (by simp), Nat.mul_one, ← List.length_map (f := vI), List.take_length]

end Go.Proofs.Ytcjfmfddkhpfnab
