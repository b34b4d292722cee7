import Derived.Test.YtmdlebolmhnhaaaE4
namespace Go.Proofs.Ytmdlebolmhnhaaa
open Go.RowKit (wrap32 wrap64)
open Go.Maps (Keyed)
set_option linter.unusedVariables false
set_option linter.unusedSimpArgs false

/-- A cell that was made, as the ledger has it: its number is its place and one. -/
structure MadeR where
  fields : List Val
  depth : Int
  heap : Bool
  there : Bool

/-- What the memory is to the ledger. -/
structure Sq (a : Abs) (d : Nat) (L : List MadeR) : Prop where
  made : a.made = L.length
  deep : a.frs.length = d
  cell : ∀ (i : Nat) (m : MadeR), L[i]? = some m → a.cells (i + 1) = if m.there then some m.fields else none
  inn : ∀ i, (a.cells i).isSome = true → 1 ≤ i ∧ i ≤ a.made
  flen : ∀ (i : Nat) (m : MadeR), L[i]? = some m → 1 ≤ m.fields.length ∧ m.fields.length ≤ 8
  fsort : a.frs.Pairwise (· ≤ ·)
  fmade : ∀ x ∈ a.frs, x ≤ a.made
  inf : ∀ (i : Nat) (m : MadeR), L[i]? = some m → m.depth = -1 ∨ ∃ e : Nat, m.depth = ((e + 1 : Nat) : Int) ∧ (∃ x, a.frs[e]? = some x ∧ x ≤ i) ∧ ∀ y, a.frs[e + 1]? = some y → i < y
  psort : a.pss.Pairwise (· < ·)
  pin : ∀ (i : Nat) (m : MadeR), L[i]? = some m → m.there = true → m.heap = false → i + 1 ∈ a.pss
  pis : ∀ p ∈ a.pss, ∃ (i : Nat) (m : MadeR), p = i + 1 ∧ L[i]? = some m ∧ m.heap = false ∧ m.depth ≠ -1

theorem sq_new (n : Nat) : Sq (newX n) 0 [] where
  made := rfl
  deep := rfl
  cell := fun i m h => by simp at h
  inn := fun i h => by simp [newX] at h
  flen := fun i m h => by simp at h
  fsort := List.Pairwise.nil
  fmade := fun x h => by simp [newX] at h
  inf := fun i m h => by simp at h
  psort := List.Pairwise.nil
  pin := fun i m h => by simp at h
  pis := fun p h => by simp [newX] at h

theorem Sq.push {a : Abs} {d : Nat} {L : List MadeR} (h : Sq a d L) : Sq (pushX a) (d + 1) L where
  made := h.made
  deep := by simp [pushX, h.deep]
  cell := h.cell
  inn := h.inn
  flen := h.flen
  fsort := by
    refine List.pairwise_append.2 ⟨h.fsort, List.pairwise_singleton _ _, fun x hx y hy => ?_⟩
    simp at hy
    subst hy
    exact h.fmade x hx
  fmade := fun x hx => by
    simp [pushX] at hx
    rcases hx with hx | hx
    · exact h.fmade x hx
    · exact Nat.le_of_eq hx
  inf := fun i m hm => by
    have hi : i < L.length := (List.getElem?_eq_some_iff.1 hm).1
    rcases h.inf i m hm with h1 | ⟨e, h1, ⟨x, h2, h3⟩, h4⟩
    · exact Or.inl h1
    · have he : e < a.frs.length := (List.getElem?_eq_some_iff.1 h2).1
      refine Or.inr ⟨e, h1, ⟨x, ?_, h3⟩, fun y hy => ?_⟩
      · simp only [pushX]
        rw [List.getElem?_append_left he]
        exact h2
      · simp only [pushX] at hy
        rcases Nat.lt_or_ge (e + 1) a.frs.length with hl | hl
        · rw [List.getElem?_append_left hl] at hy
          exact h4 y hy
        · rw [List.getElem?_append_right hl] at hy
          have : e + 1 - a.frs.length = 0 := by omega
          rw [this] at hy
          simp at hy
          have := h.made
          omega
  psort := h.psort
  pin := h.pin
  pis := h.pis

/-- A cell is made. -/
theorem Sq.make {a : Abs} {d : Nat} {L : List MadeR} (h : Sq a d L) (hd : 0 < d) {n : Nat} (h1 : 1 ≤ n) (h8 : n ≤ 8) (heap : Bool) :
    makeX a (n : Int) heap = (if heap then mkA a n else { mkA a n with pss := a.pss ++ [a.made + 1] }, ((a.made + 1 : Nat) : Int), 0) ∧ Sq (makeX a (n : Int) heap).1 d (L ++ [⟨List.replicate n (0, 0), (d : Int), heap, true⟩]) := by
  have hfr : a.frs ≠ [] := fun e => by have := h.deep; rw [e] at this; simp at this; omega
  have hX : makeX a (n : Int) heap = (if heap then mkA a n else { mkA a n with pss := a.pss ++ [a.made + 1] }, ((a.made + 1 : Nat) : Int), 0) := by
    unfold makeX
    rw [if_neg (by omega), if_neg hfr, Int.toNat_natCast]
  refine ⟨hX, ?_⟩
  rw [hX]
  obtain ⟨A, hA⟩ : ∃ A, A = (if heap then mkA a n else { mkA a n with pss := a.pss ++ [a.made + 1] }) := ⟨_, rfl⟩
  have e1 : A.made = a.made + 1 := by rw [hA]; cases heap <;> rfl
  have e2 : A.frs = a.frs := by rw [hA]; cases heap <;> rfl
  have e3 : A.cells = upd a.cells (a.made + 1) (some (List.replicate n (0, 0))) := by rw [hA]; cases heap <;> rfl
  have e4 : A.pss = if heap then a.pss else a.pss ++ [a.made + 1] := by rw [hA]; cases heap <;> rfl
  show Sq (if heap then mkA a n else { mkA a n with pss := a.pss ++ [a.made + 1] }) d _
  rw [← hA]
  clear hA
  have hm := h.made
  have get : ∀ (i : Nat) (m : MadeR), (L ++ [⟨List.replicate n (0, 0), (d : Int), heap, true⟩])[i]? = some m → (L[i]? = some m ∧ i < L.length) ∨ (i = L.length ∧ m = ⟨List.replicate n (0, 0), (d : Int), heap, true⟩) := by
    intro i m hi
    rcases Nat.lt_or_ge i L.length with hl | hl
    · rw [List.getElem?_append_left hl] at hi
      exact Or.inl ⟨hi, hl⟩
    · have hi' := (List.getElem?_eq_some_iff.1 hi).1
      simp at hi'
      have : i = L.length := by omega
      subst this
      rw [List.getElem?_append_right (Nat.le_refl _)] at hi
      simp at hi
      exact Or.inr ⟨rfl, hi.symm⟩
  refine ⟨by simp [e1, hm], by rw [e2]; exact h.deep, fun i m hi => ?_, fun i hi => ?_, fun i m hi => ?_, by rw [e2]; exact h.fsort, fun x hx => ?_, fun i m hi => ?_, ?_, fun i m hi ht hh => ?_, fun p hp => ?_⟩
  · rw [e3]
    rcases get i m hi with ⟨hi, hl⟩ | ⟨rfl, rfl⟩
    · unfold upd
      rw [if_neg (by omega)]
      exact h.cell i m hi
    · unfold upd
      rw [if_pos (by omega)]
      rfl
  · rw [e3] at hi
    unfold upd at hi
    split at hi
    · omega
    · have := h.inn i hi; omega
  · rcases get i m hi with ⟨hi, hl⟩ | ⟨rfl, rfl⟩
    · exact h.flen i m hi
    · simp; omega
  · rw [e2] at hx; have := h.fmade x hx; omega
  · rw [e2]
    rcases get i m hi with ⟨hi, hl⟩ | ⟨rfl, rfl⟩
    · exact h.inf i m hi
    · refine Or.inr ⟨d - 1, by simp only; congr 1; omega, ⟨a.frs[d - 1]'(by have := h.deep; omega), List.getElem?_eq_getElem _, ?_⟩, fun y hy => ?_⟩
      · have := h.fmade _ (List.getElem_mem (show d - 1 < a.frs.length by have := h.deep; omega))
        omega
      · have := (List.getElem?_eq_some_iff.1 hy).1
        have := h.deep
        omega
  · rw [e4]
    cases heap
    · refine List.pairwise_append.2 ⟨h.psort, List.pairwise_singleton _ _, fun x hx y hy => ?_⟩
      simp at hy
      subst hy
      obtain ⟨i, m, rfl, hi, -⟩ := h.pis x hx
      have := (List.getElem?_eq_some_iff.1 hi).1
      omega
    · exact h.psort
  · rw [e4]
    rcases get i m hi with ⟨hi, hl⟩ | ⟨rfl, rfl⟩
    · have := h.pin i m hi ht hh
      cases heap <;> simp [this]
    · simp only at hh
      subst hh
      simp [hm]
  · rw [e4] at hp
    have old : p ∈ a.pss → ∃ (i : Nat) (m : MadeR), p = i + 1 ∧ (L ++ [⟨List.replicate n (0, 0), (d : Int), heap, true⟩])[i]? = some m ∧ m.heap = false ∧ m.depth ≠ -1 := fun hp => by
      obtain ⟨i, m, h1, h2, h3⟩ := h.pis p hp
      exact ⟨i, m, h1, by rw [List.getElem?_append_left (List.getElem?_eq_some_iff.1 h2).1]; exact h2, h3⟩
    cases heap
    · simp at hp
      rcases hp with hp | hp
      · exact old hp
      · exact ⟨L.length, ⟨List.replicate n (0, 0), (d : Int), false, true⟩, by omega, by rw [List.getElem?_append_right (Nat.le_refl _)]; simp, rfl, fun e => by have e' : (d : Int) = -1 := e; omega⟩
    · exact old hp

/-- The youngest frame goes. -/
def popL (d : Nat) (L : List MadeR) : List MadeR := L.map fun m => if m.depth = (d : Int) then { m with depth := -1, there := m.there && m.heap } else m

theorem pair_take {l : List Nat} (h : l.Pairwise (· < ·)) {num k : Nat} (hc : IsCut num l k) : (∀ p ∈ l.take k, p ≤ num) ∧ ∀ p ∈ l.drop k, num < p := by
  obtain ⟨h0, h1, h2⟩ := hc
  constructor
  · intro p hp
    obtain ⟨j, hj⟩ := List.getElem?_of_mem hp
    have hjk : j < k := by
      have := (List.getElem?_eq_some_iff.1 hj).1
      simp at this
      omega
    rw [List.getElem?_take_of_lt hjk] at hj
    have hk1 : k - 1 < l.length := by omega
    have hlast := h2 l[k - 1] (by omega) (List.getElem?_eq_getElem hk1)
    rcases Nat.lt_or_ge j (k - 1) with hlt | hge
    · obtain ⟨hjl, rfl⟩ := List.getElem?_eq_some_iff.1 hj
      have := List.pairwise_iff_getElem.1 h j (k - 1) hjl hk1 hlt
      omega
    · have : j = k - 1 := by omega
      subst this
      rw [List.getElem?_eq_getElem hk1] at hj
      cases hj
      exact hlast
  · intro p hp
    obtain ⟨j, hj⟩ := List.getElem?_of_mem hp
    rw [List.getElem?_drop] at hj
    exact h1 (k + j) p (by omega) hj

theorem Sq.pop {a : Abs} {d : Nat} {L : List MadeR} (h : Sq a (d + 1) L) : (popX a).2 = 0 ∧ Sq (popX a).1 d (popL (d + 1) L) := by
  have hne : a.frs ≠ [] := fun e => by have := h.deep; rw [e] at this; simp at this
  obtain ⟨num, hnum⟩ : ∃ num, a.frs.getLast? = some num := ⟨a.frs.getLast hne, List.getLast?_eq_some_getLast hne⟩
  have hnum' : a.frs[d]? = some num := by
    rw [← hnum, List.getLast?_eq_getElem?, h.deep]
    rfl
  have hX : popX a = ({ a with cells := gone a.cells (a.pss.drop (cutLen num a.pss)), pss := a.pss.take (cutLen num a.pss), frs := a.frs.dropLast }, 0) := by
    unfold popX; rw [hnum]
  rw [hX]
  have hc := cutLen_is num a.pss
  generalize cutLen num a.pss = k at *
  obtain ⟨ht, hdr⟩ := pair_take h.psort hc
  refine ⟨rfl, ?_⟩
  have hdl : ∀ e, e < d → a.frs.dropLast[e]? = a.frs[e]? := fun e he => by
    rw [List.getElem?_dropLast, if_pos (by have := h.deep; omega)]
  have hdn : ∀ e, d ≤ e → a.frs.dropLast[e]? = none := fun e he => List.getElem?_eq_none (by have := h.deep; simp; omega)
  have get : ∀ (i : Nat) (m' : MadeR), (popL (d + 1) L)[i]? = some m' → ∃ m, L[i]? = some m ∧ m' = if m.depth = ((d + 1 : Nat) : Int) then { m with depth := -1, there := m.there && m.heap } else m := by
    intro i m' hi
    unfold popL at hi
    rw [List.getElem?_map] at hi
    cases hL : L[i]? with
    | none => rw [hL] at hi; cases hi
    | some m => rw [hL] at hi; cases hi; exact ⟨m, rfl, rfl⟩
  -- what is in the youngest frame
  have young : ∀ (i : Nat) (m : MadeR), L[i]? = some m → m.depth = ((d + 1 : Nat) : Int) → num ≤ i := fun i m hi hd => by
    rcases h.inf i m hi with h1 | ⟨e, h1, ⟨x, h2, h3⟩, -⟩
    · omega
    · have : e = d := by omega
      subst this
      rw [hnum'] at h2
      cases h2
      exact h3
  have older : ∀ (i : Nat) (m : MadeR), L[i]? = some m → m.depth ≠ -1 → m.depth ≠ ((d + 1 : Nat) : Int) → i < num := fun i m hi h1 h2 => by
    rcases h.inf i m hi with h3 | ⟨e, h3, ⟨x, h4, -⟩, h5⟩
    · exact absurd h3 h1
    · have he : e < a.frs.length := (List.getElem?_eq_some_iff.1 h4).1
      have hed : e < d := by have := h.deep; omega
      obtain ⟨y, hy⟩ : ∃ y, a.frs[e + 1]? = some y := ⟨_, List.getElem?_eq_getElem (by have := h.deep; omega)⟩
      have := h5 y hy
      rcases Nat.lt_or_ge (e + 1) d with hl | hl
      · obtain ⟨p1, rfl⟩ := List.getElem?_eq_some_iff.1 hy
        obtain ⟨p2, rfl⟩ := List.getElem?_eq_some_iff.1 hnum'
        have := List.pairwise_iff_getElem.1 h.fsort (e + 1) d p1 p2 hl
        omega
      · have : e + 1 = d := by omega
        rw [this, hnum'] at hy
        cases hy
        assumption
  refine ⟨by simp [popL, h.made], by simp [h.deep], fun i m' hi => ?_, fun i hi => ?_, fun i m' hi => ?_, h.fsort.sublist (List.dropLast_sublist _), fun x hx => h.fmade x ((List.dropLast_sublist _).subset hx), fun i m' hi => ?_, h.psort.sublist (List.take_sublist _ _), fun i m' hi hth hh => ?_, fun p hp => ?_⟩
  · obtain ⟨m, hm, rfl⟩ := get i m' hi
    have hcell := h.cell i m hm
    show gone a.cells (a.pss.drop k) (i + 1) = _
    unfold gone
    by_cases hdp : m.depth = ((d + 1 : Nat) : Int)
    · rw [if_pos hdp]
      have hy := young i m hm hdp
      cases hhp : m.heap
      · simp only [Bool.and_false]
        split
        · rfl
        · rename_i hnin
          cases hth : m.there
          · rw [hcell, hth]
          · exfalso
            have hin := h.pin i m hm hth hhp
            rw [← List.take_append_drop k a.pss] at hin
            rcases List.mem_append.1 hin with h1 | h1
            · have := ht _ h1; omega
            · exact hnin h1
      · simp only [Bool.and_true]
        rw [if_neg]
        · exact hcell
        · intro hin
          obtain ⟨i', m2, h1, h2, h3, -⟩ := h.pis _ (List.mem_of_mem_drop hin)
          have : i' = i := by omega
          subst this
          rw [hm] at h2
          cases h2
          rw [hhp] at h3
          cases h3
    · rw [if_neg hdp, if_neg]
      · exact hcell
      · intro hin
        have h0 := hdr _ hin
        obtain ⟨i', m2, h1, h2, -, h3⟩ := h.pis _ (List.mem_of_mem_drop hin)
        have : i' = i := by omega
        subst this
        rw [hm] at h2
        cases h2
        have := older i' m hm h3 hdp
        omega
  · have hi' : (gone a.cells (a.pss.drop k) i).isSome = true := hi
    unfold gone at hi'
    split at hi'
    · cases hi'
    · exact h.inn i hi'
  · obtain ⟨m, hm, rfl⟩ := get i m' hi
    have := h.flen i m hm
    split <;> exact this
  · obtain ⟨m, hm, rfl⟩ := get i m' hi
    by_cases hdp : m.depth = ((d + 1 : Nat) : Int)
    · rw [if_pos hdp]; exact Or.inl rfl
    · rw [if_neg hdp]
      rcases h.inf i m hm with h1 | ⟨e, h1, ⟨x, h2, h3⟩, h4⟩
      · exact Or.inl h1
      · have he : e < a.frs.length := (List.getElem?_eq_some_iff.1 h2).1
        have hed : e < d := by have := h.deep; omega
        refine Or.inr ⟨e, h1, ⟨x, by show a.frs.dropLast[e]? = _; rw [hdl e hed]; exact h2, h3⟩, fun y hy => ?_⟩
        have hy' : a.frs.dropLast[e + 1]? = some y := hy
        rcases Nat.lt_or_ge (e + 1) d with hl | hl
        · rw [hdl _ hl] at hy'; exact h4 y hy'
        · rw [hdn _ hl] at hy'; cases hy'
  · obtain ⟨m, hm, rfl⟩ := get i m' hi
    show i + 1 ∈ a.pss.take k
    by_cases hdp : m.depth = ((d + 1 : Nat) : Int)
    · rw [if_pos hdp] at hth hh
      simp only [Bool.and_eq_true] at hth
      simp only at hh
      rw [hh] at hth
      cases hth.2
    · rw [if_neg hdp] at hth hh
      have hin := h.pin i m hm hth hh
      have hin' := hin
      rw [← List.take_append_drop k a.pss] at hin
      rcases List.mem_append.1 hin with h1 | h1
      · exact h1
      · exfalso
        have h0 := hdr _ h1
        obtain ⟨i', m2, h1, h2, -, h3⟩ := h.pis _ hin'
        have : i' = i := by omega
        subst this
        rw [hm] at h2
        cases h2
        have := older i' m hm h3 hdp
        omega
  · have hp' : p ∈ a.pss.take k := hp
    have h0 := ht p hp'
    obtain ⟨i, m, rfl, hm, h2, h3⟩ := h.pis p (List.mem_of_mem_take hp')
    have hdp : m.depth ≠ ((d + 1 : Nat) : Int) := fun e => by have := young i m hm e; omega
    refine ⟨i, m, rfl, ?_, h2, h3⟩
    unfold popL
    rw [List.getElem?_map, hm]
    simp only [Option.map_some, if_neg hdp]

theorem Sq.pop0 {a : Abs} {L : List MadeR} (h : Sq a 0 L) : popX a = (a, 30) := by
  have : a.frs = [] := List.length_eq_zero_iff.1 h.deep
  unfold popX
  rw [this]
  rfl

theorem Sq.make0 {a : Abs} {L : List MadeR} (h : Sq a 0 L) {n : Nat} (h1 : 1 ≤ n) (h8 : n ≤ 8) (heap : Bool) : makeX a (n : Int) heap = (a, 0, 30) := by
  have : a.frs = [] := List.length_eq_zero_iff.1 h.deep
  unfold makeX
  rw [if_neg (by omega), if_pos this]

/-- A change of one entry that touches neither its frame nor where it lies. -/
theorem Sq.entry {a a' : Abs} {d : Nat} {L : List MadeR} (h : Sq a d L) {c : Nat} {m m' : MadeR} (hm : L[c]? = some m) (hdp : m'.depth = m.depth) (hhp : m'.heap = m.heap) (hth : m'.there = true → m.there = true) (hfl : m'.fields.length = m.fields.length)
    (e1 : a'.made = a.made) (e2 : a'.frs = a.frs) (e3 : ∀ i, i ≠ c + 1 → a'.cells i = a.cells i) (e4 : a'.cells (c + 1) = if m'.there then some m'.fields else none) (e5 : a'.pss.Sublist a.pss) (e6 : ∀ p ∈ a.pss, (a'.cells p).isSome = true → p ∈ a'.pss) :
    Sq a' d (L.set c m') := by
  have hcl : c < L.length := (List.getElem?_eq_some_iff.1 hm).1
  have get : ∀ (i : Nat) (x : MadeR), (L.set c m')[i]? = some x → (i = c ∧ x = m') ∨ (i ≠ c ∧ L[i]? = some x) := by
    intro i x hi
    by_cases hic : i = c
    · subst hic
      rw [List.getElem?_set_self hcl] at hi
      cases hi
      exact Or.inl ⟨rfl, rfl⟩
    · rw [List.getElem?_set_ne (Ne.symm hic)] at hi
      exact Or.inr ⟨hic, hi⟩
  refine ⟨by simp [e1, h.made], by rw [e2]; exact h.deep, fun i x hi => ?_, fun i hi => ?_, fun i x hi => ?_, by rw [e2]; exact h.fsort, by rw [e1, e2]; exact h.fmade, fun i x hi => ?_, h.psort.sublist e5, fun i x hi ht hh => ?_, fun p hp => ?_⟩
  · rcases get i x hi with ⟨rfl, rfl⟩ | ⟨hic, hi⟩
    · exact e4
    · rw [e3 _ (by omega)]; exact h.cell i x hi
  · rw [e1]
    by_cases hic : i = c + 1
    · have := h.made; omega
    · rw [e3 i hic] at hi; exact h.inn i hi
  · rcases get i x hi with ⟨rfl, rfl⟩ | ⟨hic, hi⟩
    · rw [hfl]; exact h.flen _ m hm
    · exact h.flen i x hi
  · rw [e2]
    rcases get i x hi with ⟨rfl, rfl⟩ | ⟨hic, hi⟩
    · rw [hdp]; exact h.inf _ m hm
    · exact h.inf i x hi
  · rcases get i x hi with ⟨rfl, rfl⟩ | ⟨hic, hi⟩
    · have := h.pin _ m hm (hth ht) (by rw [← hhp]; exact hh)
      exact e6 _ this (by rw [e4, if_pos ht]; rfl)
    · have := h.pin i x hi ht hh
      refine e6 _ this ?_
      rw [e3 _ (by omega), h.cell i x hi, if_pos ht]
      rfl
  · obtain ⟨i, x, rfl, hx, h2, h3⟩ := h.pis p (e5.subset hp)
    by_cases hic : i = c
    · subst hic
      rw [hm] at hx
      cases hx
      exact ⟨i, m', rfl, List.getElem?_set_self hcl, by rw [hhp]; exact h2, by rw [hdp]; exact h3⟩
    · exact ⟨i, x, rfl, by rw [List.getElem?_set_ne (Ne.symm hic)]; exact hx, h2, h3⟩

/-- A cell that is there is dropped. -/
theorem Sq.drop {a : Abs} {d : Nat} {L : List MadeR} (h : Sq a d L) {c : Nat} {m : MadeR} (hm : L[c]? = some m) (ht : m.there = true) :
    (dropX a [((c + 1 : Nat) : Int)]).2 = 0 ∧ Sq (dropX a [((c + 1 : Nat) : Int)]).1 d (L.set c { m with there := false }) := by
  have hcl : c < L.length := (List.getElem?_eq_some_iff.1 hm).1
  have hcell : a.cells (c + 1) = some m.fields := by rw [h.cell c m hm, ht]; rfl
  have hmay : mayDropX a [((c + 1 : Nat) : Int)] = 0 := by
    have hw : wasM a ((c + 1 : Nat) : Int) = true := by unfold wasM; have := h.made; simp only [decide_eq_true_eq]; omega
    have hs : srt [((c + 1 : Nat) : Int)] = [((c + 1 : Nat) : Int)] := List.mergeSort_singleton _
    unfold mayDropX
    rw [hs]
    simp only [List.all_cons, hw, List.all_nil, Bool.and_self, Bool.true_eq_false, if_false, List.length_singleton]
    rw [if_neg]
    simp only [List.range_one, List.any_cons, List.any_nil, Bool.or_false, badAt]
    simp [show ((c : Int) + 1).toNat = c + 1 by omega, hcell]
  unfold dropX
  rw [if_pos hmay]
  refine ⟨rfl, ?_⟩
  have hz : [((c + 1 : Nat) : Int)].map Int.toNat = [c + 1] := by simp only [List.map_cons, List.map_nil, Int.toNat_natCast]
  have cd : ∀ i, (dropA a [((c + 1 : Nat) : Int)]).cells i = if i = c + 1 then none else a.cells i := fun i => by
    show gone a.cells _ i = _
    unfold gone
    rw [hz]
    by_cases hi : i = c + 1
    · simp [hi]
    · simp [hi]
  refine h.entry hm rfl rfl (fun e => by cases e) rfl ?_ ?_ (fun i hi => ?_) ?_ ?_ (fun p hp hs => ?_)
  · unfold forgetX; split <;> rfl
  · unfold forgetX; split <;> rfl
  · have : (forgetX (dropA a [((c + 1 : Nat) : Int)])).cells = (dropA a [((c + 1 : Nat) : Int)]).cells := by unfold forgetX; split <;> rfl
    rw [this, cd, if_neg hi]
  · have : (forgetX (dropA a [((c + 1 : Nat) : Int)])).cells = (dropA a [((c + 1 : Nat) : Int)]).cells := by unfold forgetX; split <;> rfl
    rw [this, cd, if_pos rfl]
    rfl
  · unfold forgetX
    split
    · exact List.filter_sublist
    · exact List.Sublist.refl _
  · have : (forgetX (dropA a [((c + 1 : Nat) : Int)])).cells = (dropA a [((c + 1 : Nat) : Int)]).cells := by unfold forgetX; split <;> rfl
    rw [this] at hs
    unfold forgetX
    split
    · exact List.mem_filter.2 ⟨hp, hs⟩
    · exact hp

/-- A field of a cell that is there is written. -/
theorem Sq.store {a : Abs} {d : Nat} {L : List MadeR} (h : Sq a d L) {c : Nat} {m : MadeR} (hm : L[c]? = some m) (ht : m.there = true) {f : Nat} (hf : f < m.fields.length) {x : Val} (hx : rightB a.made x = true) :
    (storeX a (2, ((c + 1 : Nat) : Int)) (f : Int) x).2 = 0 ∧ Sq (storeX a (2, ((c + 1 : Nat) : Int)) (f : Int) x).1 d (L.set c { m with fields := m.fields.set f x }) := by
  have hcl : c < L.length := (List.getElem?_eq_some_iff.1 hm).1
  have hcell : a.cells (c + 1) = some m.fields := by rw [h.cell c m hm, ht]; rfl
  have hr : rightB a.made (2, ((c + 1 : Nat) : Int)) = true := by
    have := h.made
    simp [rightB]
    omega
  have hX : storeX a (2, ((c + 1 : Nat) : Int)) (f : Int) x = ({ a with cells := upd a.cells (c + 1) (some (m.fields.set f x)) }, 0) := by
    unfold storeX
    rw [if_neg (by rw [hr, hx]; simp), if_neg (by simp)]
    simp only [Int.toNat_natCast, hcell]
    rw [if_pos (by omega)]
  rw [hX]
  refine ⟨rfl, h.entry hm rfl rfl (fun e => e) (by simp) rfl rfl (fun i hi => ?_) ?_ (List.Sublist.refl _) (fun p hp _ => hp)⟩
  · show upd a.cells (c + 1) _ i = _
    unfold upd
    rw [if_neg hi]
  · show upd a.cells (c + 1) _ (c + 1) = _
    unfold upd
    rw [if_pos rfl, if_pos ht]

/-! ### what is there -/
def thereB (L : List MadeR) (i : Nat) : Bool := (L[i]?.map (·.there)).getD false
/-- The places of the cells that must be there, below k. -/
def thereL (L : List MadeR) (k : Nat) : List Nat := (List.range k).filter (thereB L)

theorem thereL_succ (L : List MadeR) (k : Nat) : thereL L (k + 1) = thereL L k ++ if thereB L k then [k] else [] := by
  unfold thereL
  rw [List.range_succ, List.filter_append]
  congr 1
  simp only [List.filter_cons, List.filter_nil]

theorem Sq.isSome {a : Abs} {d : Nat} {L : List MadeR} (h : Sq a d L) (i : Nat) (hi : i < L.length) : (a.cells (i + 1)).isSome = thereB L i := by
  have hm := List.getElem?_eq_getElem hi
  rw [h.cell i _ hm]
  unfold thereB
  rw [hm]
  simp only [Option.map_some, Option.getD_some]
  cases L[i].there <;> rfl

theorem Sq.live {a : Abs} {d : Nat} {L : List MadeR} (h : Sq a d L) : liveX a = (thereL L L.length).map fun i : Nat => ((i + 1 : Nat) : Int) := by
  have key : ∀ k, k ≤ L.length → (List.range (k + 1)).filter (fun i => (a.cells i).isSome) = (thereL L k).map (· + 1) := by
    intro k
    induction k with
    | zero =>
      intro _
      have : (a.cells 0).isSome = false := by
        cases hs : (a.cells 0).isSome
        · rfl
        · have := h.inn 0 hs; omega
      simp [thereL, this]
    | succ k ih =>
      intro hk
      rw [List.range_succ, List.filter_append, ih (by omega), thereL_succ, List.map_append]
      congr 1
      simp only [List.filter_cons, List.filter_nil, h.isSome k (by omega)]
      cases thereB L k <;> rfl
  unfold liveX liveN
  rw [h.made, key _ (Nat.le_refl _), List.map_map]
  rfl

/-- The place of a cell that is there, among those that are. -/
theorem thereL_at (L : List MadeR) {i n : Nat} (hi : i < n) (ht : thereB L i = true) : (thereL L n)[(thereL L i).length]? = some i := by
  have key : ∀ k, i + 1 + k ≤ n → ∃ r, thereL L (i + 1 + k) = thereL L i ++ i :: r := by
    intro k
    induction k with
    | zero => intro _; exact ⟨[], by rw [Nat.add_zero, thereL_succ, if_pos ht]⟩
    | succ k ih =>
      intro hk
      obtain ⟨r, hr⟩ := ih (by omega)
      exact ⟨r ++ (if thereB L (i + 1 + k) then [i + 1 + k] else []), by rw [← Nat.add_assoc, thereL_succ, hr]; simp⟩
  obtain ⟨r, hr⟩ := key (n - (i + 1)) (by omega)
  rw [show i + 1 + (n - (i + 1)) = n by omega] at hr
  rw [hr, List.getElem?_append_right (Nat.le_refl _)]
  simp

theorem thereL_len (L : List MadeR) (k : Nat) : (thereL L k).length ≤ k := by
  unfold thereL
  exact Nat.le_trans (List.length_filter_le _ _) (by simp)

end Go.Proofs.Ytmdlebolmhnhaaa
