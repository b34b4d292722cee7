import Derived.Test.YtmdlebolmhnhaaaG5
namespace Go.Proofs.Ytmdlebolmhnhaaa
open Go.RowKit (wrap32 wrap64)
open Go.Maps (Keyed)
set_option linter.unusedVariables false
set_option linter.unusedSimpArgs false

theorem under57 : Try.prog.underlying 57 = some (.slice 39) := by kernel_rfl
theorem row3_slice {w : World} {B : Nat} {v : Value} {n : Nat} {xs : List Value} (h : w.ownsRow B 3 1 v n xs) : ∃ ad cap, v = .slice ad n cap := by
  rcases h.2 with ⟨e, rfl⟩ | ⟨g, cap, cur, e, -⟩
  · exact ⟨_, _, e⟩
  · exact ⟨_, _, e⟩

theorem rows_grown {w w2 w6 : World} {m : Nat} {bs : Nat → Nat} {gs : Nat → Gh} {ax : Nat → Abs} (hM : Mems w w2 m bs gs ax) {u t : Value} {zss : List (List Int)} {tl : List Int} {vs : List Value} (h1 : (w2.alloc (.cells #[t] 39)).ownsRow w.heap.size 39 1 u zss.length vs) (h2 : ∀ j, u.ownBlock = some j → Free m gs j)
    (h3 : ∀ (i : Nat) (u : Value), vs[i]? = some u → ∃ zs : List Int, zss[i]? = some zs ∧ (w2.alloc (.cells #[t] 39)).ownsRow w.heap.size 3 1 u zs.length (zs.map vI) ∧ ∀ j, u.ownBlock = some j → Free m gs j)
    (ht : w2.ownsRow w.heap.size 3 1 t tl.length (tl.map vI)) (htf : ∀ j, t.ownBlock = some j → Free m gs j) {g6 cap6 : Nat} (hown : w6.ownsRow w.heap.size 39 1 (.slice (some ⟨g6, 0, none⟩) (zss.length + 1) cap6) (zss.length + 1) (vs ++ [t])) (hgrow : (w2.alloc (.cells #[t] 39)).grownBy w6 u.ownBlock) (hat : u.ownBlock = some g6 ∨ g6 = w2.heap.size + 1) :
    Mems w w6 m bs gs ax ∧ RowsL w6 w.heap.size (.slice (some ⟨g6, 0, none⟩) (zss.length + 1) cap6) (zss ++ [tl]) (Free m gs) := by
  have hFa : Fr (fun _ => False) w2 (w2.alloc (.cells #[t] 39)) := Fr.alloc (Fr.refl _ w2) _
  have hF6 : Fr (fun j => u.ownBlock = some j) (w2.alloc (.cells #[t] 39)) w6 := grown_fr hgrow
  refine ⟨(hM.keep0 hFa).keep hF6 h2 (fun j e => (World.ownsRow.lt h1 j e).1), ?_⟩
  refine RowsL.grow h1 h3 (ownsRow_fr ht hFa (fun _ _ h => h)) htf hown hF6 (fun j e => ?_)
  cases e
  rcases hat with h | h
  · exact h2 _ h
  · exact hM.free_new (show w2.heap.size ≤ g6 by omega)

/-- told, where there are more memories, and lists in bounds. -/
theorem told_mems2 {w wr : World} {bs : Nat → Nat} {gs : Nat → Gh} {ax : Nat → Abs} {m : Nat} (hM : Mems w wr m bs gs ax) {i : Nat} (hi : i < m) (o : OpR) (zs : List Int) (hI : IntsAt w.heap.size w o.cells zs) (hl : o.cl = zs.length) (hz : zs.length ≤ 17592186043904) {N : Nat} (hf : Fine N (ax i)) (hN : N + 1 ≤ 10000000000000) :
    Calls Try.prog 24 #[ptr (bs i), opV o] wr fun e w2 => ∃ gs' v, e = .returned v ∧ Mems w w2 m bs gs' (fun j => if j = i then (ansX (ax i) o zs).abs else ax j) ∧ (∀ (Q : Nat → Prop) u zss, RowsL wr w.heap.size u zss (fun j => Free m gs j ∧ Q j) → RowsL w2 w.heap.size u zss (fun j => Free m gs' j ∧ Q j)) ∧ w2.ownsRow w.heap.size 3 1 v (tellX (ansX (ax i) o zs)).length ((tellX (ansX (ax i) o zs)).map vI) ∧ (∀ j, v.ownBlock = some j → Free m gs' j ∧ wr.heap.size ≤ j) ∧ wr.heap.size ≤ w2.heap.size := by
  refine (told_any (bs i) (gs i) (ax i) o zs wr (hM.mem i hi) (IntsAt.fr hI hM.fr (fun _ _ h => h)) hl (IntsAt.ownless hI (hM.own i hi)) hz hf hN).mono ?_
  rintro e w2 ⟨g2, v, rfl, hrow, ho, hM2, hF2, hE2⟩
  refine ⟨fun j => if j = i then g2 else gs j, v, rfl, hM.call hi hM2 hF2 hE2, fun Q u zss hR => ?_, World.ownsRow.mono hrow hM.fr.size, fun j hj => ?_, hF2.size⟩
  · have h1 : RowsL wr w.heap.size u zss (fun j => (Free m gs j ∧ Q j) ∧ j < wr.heap.size) := hR.mono (fun j hj h => ⟨h, hj⟩)
    have h2 := h1.fr hF2 (fun j hj e => e (hj.1.1 i hi))
    exact h2.mono (fun j _ hj => ⟨hj.1.1.call hi hE2 hj.2, hj.1.2⟩)
  · have hb := (World.ownsRow.lt hrow j hj).1
    refine ⟨?_, hb⟩
    intro k hk
    by_cases e : k = i
    · simp only [e, if_true]
      exact ho j hj
    · simp only [e, if_false]
      exact hM.free_new hb k hk

theorem rows_grown2 {w w2 w6 : World} {m : Nat} {bs : Nat → Nat} {gs : Nat → Gh} {ax : Nat → Abs} (hM : Mems w w2 m bs gs ax) {lo : Nat} (hlo : lo ≤ w2.heap.size) {u t : Value} {zss : List (List Int)} {tl : List Int} {vs : List Value} (h1 : (w2.alloc (.cells #[t] 39)).ownsRow w.heap.size 39 1 u zss.length vs) (h2 : ∀ j, u.ownBlock = some j → Free m gs j ∧ lo ≤ j)
    (h3 : ∀ (i : Nat) (u : Value), vs[i]? = some u → ∃ zs : List Int, zss[i]? = some zs ∧ (w2.alloc (.cells #[t] 39)).ownsRow w.heap.size 3 1 u zs.length (zs.map vI) ∧ ∀ j, u.ownBlock = some j → Free m gs j ∧ lo ≤ j)
    (ht : w2.ownsRow w.heap.size 3 1 t tl.length (tl.map vI)) (htf : ∀ j, t.ownBlock = some j → Free m gs j ∧ lo ≤ j) {g6 cap6 : Nat} (hown : w6.ownsRow w.heap.size 39 1 (.slice (some ⟨g6, 0, none⟩) (zss.length + 1) cap6) (zss.length + 1) (vs ++ [t])) (hgrow : (w2.alloc (.cells #[t] 39)).grownBy w6 u.ownBlock) (hat : u.ownBlock = some g6 ∨ g6 = w2.heap.size + 1) :
    Mems w w6 m bs gs ax ∧ RowsL w6 w.heap.size (.slice (some ⟨g6, 0, none⟩) (zss.length + 1) cap6) (zss ++ [tl]) (fun j => Free m gs j ∧ lo ≤ j) ∧ (∀ (Q : Nat → Prop) u' zss', RowsL w2 w.heap.size u' zss' (fun j => Free m gs j ∧ Q j) → (∀ j, Q j → j < lo) → RowsL w6 w.heap.size u' zss' (fun j => Free m gs j ∧ Q j)) ∧ w2.heap.size ≤ w6.heap.size := by
  have hFa : Fr (fun _ => False) w2 (w2.alloc (.cells #[t] 39)) := Fr.alloc (Fr.refl _ w2) _
  have hF6 : Fr (fun j => u.ownBlock = some j) (w2.alloc (.cells #[t] 39)) w6 := grown_fr hgrow
  refine ⟨(hM.keep0 hFa).keep hF6 (fun j e => (h2 j e).1) (fun j e => (World.ownsRow.lt h1 j e).1), ?_, fun Q u' zss' hR hQ => ?_, Nat.le_trans hFa.size hF6.size⟩
  · refine RowsL.grow h1 h3 (ownsRow_fr ht hFa (fun _ _ h => h)) htf hown hF6 (fun j e => ?_)
    cases e
    rcases hat with h | h
    · exact h2 _ h
    · exact ⟨hM.free_new (show w2.heap.size ≤ g6 by omega), show lo ≤ g6 by omega⟩
  · refine RowsL.fr (hR.fr hFa (fun _ _ h => h)) hF6 (fun j hj e => ?_)
    have := (h2 j e).2
    have := hQ j hj.2
    omega

/-- A list of lists that stand elsewhere has grown by one. -/
theorem rows_grown4 {w w2 w6 : World} (hF : Fr (fun _ => False) w w2) {lo : Nat} (hlo : lo ≤ w2.heap.size) {u t : Value} {zss : List (List Int)} {tl : List Int} {vs : List Value} (h1 : (w2.alloc (.cells #[t] 39)).ownsRow w.heap.size 39 1 u zss.length vs) (h2 : ∀ j, u.ownBlock = some j → lo ≤ j)
    (h3 : ∀ (i : Nat) (u : Value), vs[i]? = some u → ∃ zs : List Int, zss[i]? = some zs ∧ (w2.alloc (.cells #[t] 39)).ownsRow w.heap.size 3 1 u zs.length (zs.map vI) ∧ ∀ j, u.ownBlock = some j → True)
    (ht : w2.ownsRow w.heap.size 3 1 t tl.length (tl.map vI)) {g6 cap6 : Nat} (hown : w6.ownsRow w.heap.size 39 1 (.slice (some ⟨g6, 0, none⟩) (zss.length + 1) cap6) (zss.length + 1) (vs ++ [t])) (hgrow : (w2.alloc (.cells #[t] 39)).grownBy w6 u.ownBlock) (hat : u.ownBlock = some g6 ∨ g6 = w2.heap.size + 1) :
    Fr (fun _ => False) w w6 ∧ RowsL w6 w.heap.size (.slice (some ⟨g6, 0, none⟩) (zss.length + 1) cap6) (zss ++ [tl]) (fun _ => True) ∧ (∀ j, (Value.slice (some ⟨g6, 0, none⟩) (zss.length + 1) cap6).ownBlock = some j → lo ≤ j) ∧ (∀ u' zss', RowsL w2 w.heap.size u' zss' (fun j => j < lo) → RowsL w6 w.heap.size u' zss' (fun j => j < lo)) ∧ Fr (fun j => lo ≤ j) w2 w6 := by
  have hFa : Fr (fun _ => False) w2 (w2.alloc (.cells #[t] 39)) := Fr.alloc (Fr.refl _ w2) _
  have hF6 : Fr (fun j => u.ownBlock = some j) (w2.alloc (.cells #[t] 39)) w6 := grown_fr hgrow
  refine ⟨(hF.trans hFa).then hF6 (fun j hj e => by have := (World.ownsRow.lt h1 j e).1; omega), ?_, fun j e => ?_, fun u' zss' hR => ?_, (hFa.mono (fun _ _ h => h.elim)).trans (hF6.mono (fun j _ e => h2 j e))⟩
  · exact RowsL.grow h1 h3 (ownsRow_fr ht hFa (fun _ _ h => h)) (fun _ _ => trivial) hown hF6 (fun _ _ => trivial)
  · cases e
    rcases hat with h | h
    · exact h2 _ h
    · exact show lo ≤ g6 by omega
  · refine RowsL.fr (hR.fr hFa (fun _ _ h => h)) hF6 (fun j hj e => ?_)
    have := h2 j e
    omega

theorem range_map_snoc {α : Type} (f : Nat → α) (k : Nat) : (List.range (k + 1)).map f = (List.range k).map f ++ [f k] := by rw [List.range_succ, List.map_append]; rfl
theorem range_map_len {α : Type} (f : Nat → α) (k : Nat) : ((List.range k).map f).length = k := by simp

theorem tellA_len (os : List OpR) (zss : Nat → List Int) (k : Nat) (hk : k < os.length) (h : os.length ≤ 1600000000000) : (tellA os zss k).length ≤ 10000000000000 := by
  unfold tellA
  rw [List.getElem?_eq_getElem hk]
  have hf := runA_fine os zss k
  have h1 := liveX_len (runA os zss k)
  have h2 := hf.made
  simp only [tellX, List.length_append, List.length_cons, List.length_nil]
  unfold ansX
  split
  · simp only; omega
  split
  · simp
  · simp

theorem mixL_all (n1 n2 : Nat) (T1 T2 : Nat → List Int) (p : List Int → Prop) (h1 : ∀ k, k < n1 → p (T1 k)) (h2 : ∀ k, k < n2 → p (T2 k)) : ∀ k, ∀ zs ∈ mixL n1 n2 T1 T2 k, p zs
  | 0, zs, h => by simp [mixL] at h
  | k + 1, zs, h => by
    simp only [mixL, List.mem_append] at h
    rcases h with (h | h) | h
    · exact mixL_all n1 n2 T1 T2 p h1 h2 k zs h
    · split at h
      · rename_i hk
        simp at h
        subst h
        exact h1 k hk
      · simp at h
    · split at h
      · rename_i hk
        simp at h
        subst h
        exact h2 k hk
      · simp at h

end Go.Proofs.Ytmdlebolmhnhaaa
