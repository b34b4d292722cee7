import Derived.Test.YtmdlebolmhnhaabT2
import Derived.Test.YtmdlebolmhnhaabS4J
namespace Go.Proofs.Ytmdlebolmhnhaab
open Go.RowKit (wrap32 wrap64)
open Go.Maps (Keyed)
set_option linter.unusedVariables false
set_option linter.unusedSimpArgs false

theorem goStep_get (cs : List CellR) (n : Nat) (hn : 1 ≤ n) (i : Nat) : (goStep cs n)[i]? = (cs[i]?).map fun c => if i + 1 = n ∧ c.heap = false then { c with there := false } else c := by
  unfold goStep
  by_cases hi : i + 1 = n
  · subst hi
    rw [Nat.add_sub_cancel]
    cases hc : cs[i]? with
    | none => simp [hc]
    | some c =>
      have hl := (List.getElem?_eq_some_iff.1 hc).1
      cases hh : c.heap
      · have e : (if c.heap = true then cs else cs.set i { c with there := false }) = cs.set i { c with there := false } := if_neg (by rw [hh]; simp)
        show (if c.heap = true then cs else cs.set i { c with there := false })[i]? = _
        rw [e, List.getElem?_set_self hl]
        simp [hh]
      · have e : (if c.heap = true then cs else cs.set i { c with there := false }) = cs := if_pos hh
        show (if c.heap = true then cs else cs.set i { c with there := false })[i]? = _
        rw [e, hc]
        simp [hh]
  · have hid : (fun c : CellR => if i + 1 = n ∧ c.heap = false then ({ c with there := false } : CellR) else c) = id := by
      funext c
      rw [if_neg (fun e => hi e.1)]
      rfl
    rw [hid, Option.map_id]
    split
    · split
      · rfl
      · rw [List.getElem?_set_ne (by omega)]
        rfl
    · rfl

theorem goAll_get : ∀ (l : List Nat) (cs : List CellR), (∀ n ∈ l, 1 ≤ n) → ∀ i : Nat, (goAll l cs)[i]? = (cs[i]?).map fun c => if i + 1 ∈ l ∧ c.heap = false then { c with there := false } else c
  | [], cs, _, i => by
    show cs[i]? = _
    cases cs[i]? <;> simp
  | n :: l, cs, h, i => by
    show (goAll l (goStep cs n))[i]? = _
    rw [goAll_get l (goStep cs n) (fun m hm => h m (List.mem_cons_of_mem _ hm)) i, goStep_get cs n (h n List.mem_cons_self) i, Option.map_map]
    cases cs[i]? with
    | none => rfl
    | some c =>
      simp only [Option.map_some, Function.comp]
      congr 1
      cases hh : c.heap
      · by_cases h1 : i + 1 = n
        · simp [h1, hh]
        · by_cases h2 : i + 1 ∈ l
          · simp [h1, h2, hh]
          · simp [h1, h2, hh]
      · simp [hh]

theorem pair_takeR {l : List Nat} (h : l.Pairwise (· < ·)) {num k : Nat} (hc : IsCut num l k) : (∀ p ∈ l.take k, p ≤ num) ∧ ∀ p ∈ l.drop k, num < p := by
  obtain ⟨h0, h1, h2⟩ := hc
  constructor
  · intro p hp
    obtain ⟨j, hj⟩ := List.getElem?_of_mem hp
    have hjk : j < k := by
      have := (List.getElem?_eq_some_iff.1 hj).1
      simp at this
      omega
    rw [List.getElem?_take_of_lt hjk] at hj
    have hk1 : k - 1 < l.length := by omega
    have hlast := h2 l[k - 1] (by omega) (List.getElem?_eq_getElem hk1)
    rcases Nat.lt_or_ge j (k - 1) with hlt | hge
    · obtain ⟨hjl, rfl⟩ := List.getElem?_eq_some_iff.1 hj
      have := List.pairwise_iff_getElem.1 h j (k - 1) hjl hk1 hlt
      omega
    · have : j = k - 1 := by omega
      subst this
      rw [List.getElem?_eq_getElem hk1] at hj
      cases hj
      exact hlast
  · intro p hp
    obtain ⟨j, hj⟩ := List.getElem?_of_mem hp
    rw [List.getElem?_drop] at hj
    exact h1 (k + j) p (by omega) hj

theorem Rel.pop {a : Abs} {r : RA} (h : Rel a r) : (popX a).2 = (rpopX r).2 ∧ Rel (popX a).1 (rpopX r).1 := by
  by_cases h0 : r.frs = []
  · have ha : a.frs = [] := List.length_eq_zero_iff.1 (by rw [h.frl, h0]; rfl)
    have e1 : popX a = (a, 30) := by unfold popX; rw [ha]; rfl
    have e2 : rpopX r = (r, 30) := by unfold rpopX; rw [h0]; rfl
    rw [e1, e2]
    exact ⟨rfl, h⟩
  obtain ⟨m, hm⟩ : ∃ m, r.frs.length = m + 1 := ⟨r.frs.length - 1, by have : 0 < r.frs.length := List.length_pos_iff.2 h0; omega⟩
  have ham : a.frs.length = m + 1 := h.frl.trans hm
  obtain ⟨l, hl⟩ : ∃ l, r.frs[m]? = some l := ⟨_, List.getElem?_eq_getElem (by omega)⟩
  obtain ⟨num, hnum⟩ : ∃ num, a.frs[m]? = some num := ⟨_, List.getElem?_eq_getElem (by omega)⟩
  have hX : popX a = ({ a with cells := gone a.cells (a.pss.drop (cutLen num a.pss)), pss := a.pss.take (cutLen num a.pss), frs := a.frs.dropLast }, 0) := by
    unfold popX
    rw [List.getLast?_eq_getElem?, ham, Nat.add_sub_cancel, hnum]
  have hY : rpopX r = ({ r with frs := r.frs.dropLast, cells := goAll l r.cells }, 0) := by
    unfold rpopX
    rw [List.getLast?_eq_getElem?, hm, Nat.add_sub_cancel, hl]
  rw [hX, hY]
  have hc := cutLen_is num a.pss
  generalize cutLen num a.pss = k at *
  obtain ⟨ht, hdr⟩ := pair_takeR h.psort hc
  have hl1 : ∀ n ∈ l, 1 ≤ n := fun n hn => (h.num m l hl n hn).1
  have hln : ∀ n ∈ l, num < n := fun n hn => by
    obtain ⟨-, -, ⟨x, h3, h4⟩, -⟩ := h.num m l hl n hn
    rw [hnum] at h3
    cases h3
    exact h4
  have hdl : ∀ t, t < m → a.frs.dropLast[t]? = a.frs[t]? := fun t ht => by rw [List.getElem?_dropLast, if_pos (by omega)]
  have hrl : ∀ t, t < m → r.frs.dropLast[t]? = r.frs[t]? := fun t ht => by rw [List.getElem?_dropLast, if_pos (by omega)]
  have old : ∀ t l', t < m → r.frs[t]? = some l' → ∀ n ∈ l', n ≤ num := fun t l' htm hl' n hn => by
    obtain ⟨-, -, -, h5⟩ := h.num t l' hl' n hn
    obtain ⟨y, hy⟩ : ∃ y, a.frs[t + 1]? = some y := ⟨_, List.getElem?_eq_getElem (by omega)⟩
    have h6 := h5 y hy
    rcases Nat.lt_or_ge (t + 1) m with h7 | h7
    · obtain ⟨p1, rfl⟩ := List.getElem?_eq_some_iff.1 hy
      obtain ⟨p2, rfl⟩ := List.getElem?_eq_some_iff.1 hnum
      have := List.pairwise_iff_getElem.1 h.fsort (t + 1) m p1 p2 h7
      omega
    · have : t + 1 = m := by omega
      rw [this, hnum] at hy
      cases hy
      exact h6
  -- what passes and is above the cut is of the youngest frame
  have high : ∀ p ∈ a.pss, num < p → p ∈ l := fun p hp hlt => by
    obtain ⟨i, c, t, l', rfl, hci, hh, hl', hin⟩ := h.pis p hp
    have htl := (List.getElem?_eq_some_iff.1 hl').1
    rcases Nat.lt_or_ge t m with h1 | h1
    · have := old t l' h1 hl' _ hin; omega
    · have : t = m := by omega
      subst this
      rw [hl] at hl'
      cases hl'
      exact hin
  refine ⟨rfl, ?_⟩
  have get : ∀ (i : Nat) (c' : CellR), (goAll l r.cells)[i]? = some c' → ∃ c, r.cells[i]? = some c ∧ c' = if i + 1 ∈ l ∧ c.heap = false then { c with there := false } else c := fun i c' hi => by
    rw [goAll_get l r.cells hl1 i] at hi
    cases hc : r.cells[i]? with
    | none => rw [hc] at hi; cases hi
    | some c => rw [hc] at hi; cases hi; exact ⟨c, rfl, rfl⟩
  refine ⟨h.gl, by show a.made = (goAll l r.cells).length; rw [goAll_len]; exact h.made, fun i c' hi => ?_, fun i hi => ?_, ?_, h.fsort.sublist (List.dropLast_sublist _), fun x hx => h.fmade x ((List.dropLast_sublist _).subset hx), fun t l' hl' n hn => ?_, h.psort.sublist (List.take_sublist _ _), fun i c' hi hth hh => ?_, fun p hp => ?_⟩
  · obtain ⟨c, hci, rfl⟩ := get i c' hi
    have hcell := h.cell i c hci
    show gone a.cells (a.pss.drop k) (i + 1) = _
    unfold gone
    by_cases hin : i + 1 ∈ l ∧ c.heap = false
    · rw [if_pos hin]
      simp only [Bool.false_eq_true, if_false]
      split
      · rfl
      · rename_i hnin
        cases hth : c.there
        · rw [hcell, hth]; rfl
        · exfalso
          have hp := h.pin i c hci hth hin.2
          rw [← List.take_append_drop k a.pss] at hp
          rcases List.mem_append.1 hp with h1 | h1
          · have := ht _ h1; have := hln _ hin.1; omega
          · exact hnin h1
    · rw [if_neg hin, if_neg]
      · exact hcell
      · intro hd
        have hp := List.mem_of_mem_drop hd
        have hil := high _ hp (hdr _ hd)
        obtain ⟨j, c2, -, -, h1, h2, h3, -⟩ := h.pis _ hp
        have : j = i := by omega
        subst this
        rw [hci] at h2
        cases h2
        exact hin ⟨hil, h3⟩
  · have hi' : (gone a.cells (a.pss.drop k) i).isSome = true := hi
    unfold gone at hi'
    split at hi'
    · cases hi'
    · exact h.inn i hi'
  · show a.frs.dropLast.length = r.frs.dropLast.length
    simp [h.frl]
  · have hl' : r.frs.dropLast[t]? = some l' := hl'
    have htm : t < m := by have := (List.getElem?_eq_some_iff.1 hl').1; simp at this; omega
    rw [hrl t htm] at hl'
    obtain ⟨h1, h2, ⟨x, h3, h4⟩, h5⟩ := h.num t l' hl' n hn
    refine ⟨h1, h2, ⟨x, by show a.frs.dropLast[t]? = _; rw [hdl t htm]; exact h3, h4⟩, fun y hy => ?_⟩
    have hy : a.frs.dropLast[t + 1]? = some y := hy
    have : t + 1 < m := by have := (List.getElem?_eq_some_iff.1 hy).1; simp at this; omega
    rw [hdl _ this] at hy
    exact h5 y hy
  · obtain ⟨c, hci, rfl⟩ := get i c' hi
    show i + 1 ∈ a.pss.take k
    by_cases hin : i + 1 ∈ l ∧ c.heap = false
    · rw [if_pos hin] at hth
      cases hth
    · rw [if_neg hin] at hth hh
      have hp := h.pin i c hci hth hh
      have hp' := hp
      rw [← List.take_append_drop k a.pss] at hp
      rcases List.mem_append.1 hp with h1 | h1
      · exact h1
      · exact absurd ⟨high _ hp' (hdr _ h1), hh⟩ hin
  · have hp' : p ∈ a.pss.take k := hp
    have h0' := ht p hp'
    obtain ⟨i, c, t, l', rfl, hci, hh, hl', hin⟩ := h.pis p (List.mem_of_mem_take hp')
    have hni : i + 1 ∉ l := fun e => by have := hln _ e; omega
    have htm : t < m := by
      have htl := (List.getElem?_eq_some_iff.1 hl').1
      rcases Nat.lt_or_ge t m with h1 | h1
      · exact h1
      · have : t = m := by omega
        subst this
        rw [hl] at hl'
        cases hl'
        exact absurd hin hni
    refine ⟨i, c, t, l', rfl, ?_, hh, by show r.frs.dropLast[t]? = _; rw [hrl t htm]; exact hl', hin⟩
    show (goAll l r.cells)[i]? = _
    rw [goAll_get l r.cells hl1 i, hci]
    simp [hni]

end Go.Proofs.Ytmdlebolmhnhaab

namespace Go.Proofs.Ytmdlebolmhnhaab
open Go.RowKit Go.Shelf Go.Sort
set_option linter.unusedVariables false
set_option linter.unusedSimpArgs false

/-! ### Drop -/
def wasR (r : RA) (z : Int) : Bool := decide (1 ≤ z ∧ z ≤ r.cells.length)
/-- Is the one at this place gone, or did it come before? -/
def badR (r : RA) (zs : List Int) (k : Nat) : Bool := !(rthereB r ((zs.getD k 0).toNat - 1)) || (zs.take k).contains (zs.getD k 0)
def dropStep (cs : List CellR) (z : Int) : List CellR :=
  match cs[z.toNat - 1]? with
  | some c => cs.set (z.toNat - 1) { c with there := false }
  | none => cs
def dropAll (zs : List Int) (cs : List CellR) : List CellR := zs.foldl dropStep cs
def rmayX (r : RA) (zs : List Int) : Int :=
  if zs.all (wasR r) = false then 1 else if (List.range zs.length).any (badR r zs) = true then 32 else 0
def rdropX (r : RA) (zs : List Int) : RA × Int := if rmayX r zs = 0 then ({ r with cells := dropAll zs r.cells }, 0) else (r, rmayX r zs)

theorem any_badR (r : RA) (zs : List Int) : (List.range zs.length).any (badR r zs) = false ↔ (∀ z ∈ zs, rthereB r (z.toNat - 1) = true) ∧ zs.Nodup := by
  rw [List.any_eq_false]
  constructor
  · intro h
    have key : ∀ k (hk : k < zs.length), rthereB r (zs[k].toNat - 1) = true ∧ zs[k] ∉ zs.take k := fun k hk => by
      have := h k (List.mem_range.2 hk)
      have e : zs.getD k 0 = zs[k] := by rw [List.getD_eq_getElem?_getD, List.getElem?_eq_getElem hk]; rfl
      simp only [badR, e, Bool.or_eq_true, Bool.not_eq_true', List.contains_iff_mem, not_or, Bool.not_eq_false] at this
      exact this
    refine ⟨fun z hz => ?_, ?_⟩
    · obtain ⟨k, hk, rfl⟩ := List.getElem_of_mem hz
      exact (key k hk).1
    · refine List.pairwise_iff_getElem.2 (fun i j hi hj hij e => ?_)
      refine (key j hj).2 ?_
      rw [← e]
      exact List.mem_take_iff_getElem.2 ⟨i, by omega, rfl⟩
  · rintro ⟨h1, h2⟩ k hk
    have hk := List.mem_range.1 hk
    have e : zs.getD k 0 = zs[k] := by rw [List.getD_eq_getElem?_getD, List.getElem?_eq_getElem hk]; rfl
    simp only [badR, e, Bool.or_eq_true, Bool.not_eq_true', List.contains_iff_mem, not_or, Bool.not_eq_false]
    refine ⟨h1 _ (List.getElem_mem hk), fun hm => ?_⟩
    obtain ⟨i, hi, he⟩ := List.mem_take_iff_getElem.1 hm
    exact List.pairwise_iff_getElem.1 h2 i k (by omega) hk (by omega) he

theorem any_badAt (a : Abs) (zs : List Int) : (List.range zs.length).any (badAt a (srt zs)) = false ↔ (∀ z ∈ zs, (a.cells z.toNat).isSome = true) ∧ zs.Nodup := by
  have hp : (srt zs).Perm zs := List.mergeSort_perm zs _
  have hln : (srt zs).length = zs.length := hp.length_eq
  have hso : (srt zs).Pairwise (fun x y => decide (x ≤ y) = true) := List.pairwise_mergeSort (fun x y z h1 h2 => by simp at *; omega) (fun x y => by simp; omega) zs
  rw [List.any_eq_false]
  constructor
  · intro h
    have key : ∀ k (hk : k < (srt zs).length), (a.cells (srt zs)[k].toNat).isSome = true ∧ (0 < k → (srt zs).getD (k - 1) 0 ≠ (srt zs)[k]) := fun k hk => by
      have := h k (List.mem_range.2 (by omega))
      have e : (srt zs).getD k 0 = (srt zs)[k] := by rw [List.getD_eq_getElem?_getD, List.getElem?_eq_getElem hk]; rfl
      simp only [badAt, e, Bool.or_eq_true, Bool.not_eq_true', Bool.and_eq_true, decide_eq_true_eq, not_or, not_and, Bool.not_eq_false] at this
      exact this
    refine ⟨fun z hz => ?_, ?_⟩
    · obtain ⟨k, hk, rfl⟩ := List.getElem_of_mem (hp.mem_iff.2 hz)
      exact (key k hk).1
    · refine hp.nodup_iff.1 (List.pairwise_iff_getElem.2 (fun i j hi hj hij e => ?_))
      have h1 : (srt zs).getD (j - 1) 0 = (srt zs)[j - 1]'(by omega) := by rw [List.getD_eq_getElem?_getD, List.getElem?_eq_getElem (by omega)]; rfl
      have h2 := (key j hj).2 (by omega)
      rw [h1] at h2
      have h3 : (srt zs)[j - 1]'(by omega) ≤ (srt zs)[j] := by have := List.pairwise_iff_getElem.1 hso (j - 1) j (by omega) hj (by omega); simpa using this
      rcases Nat.lt_or_ge i (j - 1) with h4 | h4
      · have h5 : (srt zs)[i] ≤ (srt zs)[j - 1]'(by omega) := by have := List.pairwise_iff_getElem.1 hso i (j - 1) hi (by omega) h4; simpa using this
        omega
      · have : i = j - 1 := by omega
        subst this
        exact h2 e
  · rintro ⟨h1, h2⟩ k hk
    have hk : k < (srt zs).length := by have := List.mem_range.1 hk; omega
    have e : (srt zs).getD k 0 = (srt zs)[k] := by rw [List.getD_eq_getElem?_getD, List.getElem?_eq_getElem hk]; rfl
    simp only [badAt, e, Bool.or_eq_true, Bool.not_eq_true', Bool.and_eq_true, decide_eq_true_eq, not_or, not_and, Bool.not_eq_false]
    refine ⟨h1 _ (hp.mem_iff.1 (List.getElem_mem hk)), fun h0 he => ?_⟩
    have h3 : (srt zs).getD (k - 1) 0 = (srt zs)[k - 1]'(by omega) := by rw [List.getD_eq_getElem?_getD, List.getElem?_eq_getElem (by omega)]; rfl
    rw [h3] at he
    exact List.pairwise_iff_getElem.1 (hp.nodup_iff.2 h2) (k - 1) k (by omega) hk (by omega) he

theorem Rel.may {a : Abs} {r : RA} (h : Rel a r) (zs : List Int) : mayDropX a zs = rmayX r zs := by
  have hw : wasM a = wasR r := by funext z; unfold wasM wasR; rw [h.made]
  unfold mayDropX rmayX
  rw [hw]
  cases hall : zs.all (wasR r)
  · simp
  · simp only [Bool.true_eq_false, if_false]
    have hth : (∀ z ∈ zs, (a.cells z.toNat).isSome = true) ↔ ∀ z ∈ zs, rthereB r (z.toNat - 1) = true := by
      have one : ∀ z ∈ zs, (a.cells z.toNat).isSome = rthereB r (z.toNat - 1) := fun z hz => by
        have := List.all_eq_true.1 hall z hz
        simp only [wasR, decide_eq_true_eq] at this
        obtain ⟨i, hi⟩ : ∃ i : Nat, z.toNat = i + 1 := ⟨z.toNat - 1, by omega⟩
        rw [hi, Nat.add_sub_cancel]
        exact h.isSome i (by omega)
      constructor
      · intro hh z hz; rw [← one z hz]; exact hh z hz
      · intro hh z hz; rw [one z hz]; exact hh z hz
    have : ((List.range zs.length).any (badAt a (srt zs)) = true) ↔ ((List.range zs.length).any (badR r zs) = true) := by
      rw [← Bool.not_eq_false, ← Bool.not_eq_false, any_badAt, any_badR, hth]
    by_cases hb : (List.range zs.length).any (badR r zs) = true
    · rw [if_pos (this.2 hb), if_pos hb]
    · rw [if_neg (fun e => hb (this.1 e)), if_neg hb]

end Go.Proofs.Ytmdlebolmhnhaab
