import Derived.Test.YtmdlebolmhnhaabT3J
namespace Go.Proofs.Ytmdlebolmhnhaab
open Go.RowKit Go.Shelf Go.Sort
set_option linter.unusedVariables false
set_option linter.unusedSimpArgs false

theorem dropStep_get (cs : List CellR) (z : Int) (hz : 1 ≤ z) (i : Nat) : (dropStep cs z)[i]? = (cs[i]?).map fun c => if ((i : Int) + 1 = z) then { c with there := false } else c := by
  unfold dropStep
  obtain ⟨j, rfl⟩ : ∃ j : Nat, z = (j : Int) + 1 := ⟨(z - 1).toNat, by omega⟩
  have hj : ((j : Int) + 1).toNat - 1 = j := by omega
  rw [hj]
  by_cases hi : i = j
  · subst hi
    cases hc : cs[i]? with
    | none => simp [hc]
    | some c =>
      have hl := (List.getElem?_eq_some_iff.1 hc).1
      simp only
      rw [List.getElem?_set_self hl]
      simp
  · have hid : (fun c : CellR => if ((i : Int) + 1 = (j : Int) + 1) then ({ c with there := false } : CellR) else c) = id := by
      funext c
      rw [if_neg (by omega)]
      rfl
    rw [hid, Option.map_id]
    split
    · rw [List.getElem?_set_ne (Ne.symm hi)]
      rfl
    · rfl

theorem dropAll_get : ∀ (zs : List Int) (cs : List CellR), (∀ z ∈ zs, 1 ≤ z) → ∀ i : Nat, (dropAll zs cs)[i]? = (cs[i]?).map fun c => if (i : Int) + 1 ∈ zs then { c with there := false } else c
  | [], cs, _, i => by
    show cs[i]? = _
    cases cs[i]? <;> simp
  | z :: zs, cs, h, i => by
    show (dropAll zs (dropStep cs z))[i]? = _
    rw [dropAll_get zs (dropStep cs z) (fun m hm => h m (List.mem_cons_of_mem _ hm)) i, dropStep_get cs z (h z List.mem_cons_self) i, Option.map_map]
    cases cs[i]? with
    | none => rfl
    | some c =>
      simp only [Option.map_some, Function.comp]
      congr 1
      by_cases h1 : (i : Int) + 1 = z
      · simp [h1]
      · by_cases h2 : (i : Int) + 1 ∈ zs
        · simp [h1, h2]
        · simp [h1, h2]

theorem dropStep_len (cs : List CellR) (z : Int) : (dropStep cs z).length = cs.length := by
  unfold dropStep
  split
  · simp
  · rfl
theorem dropAll_len : ∀ (zs : List Int) (cs : List CellR), (dropAll zs cs).length = cs.length
  | [], cs => rfl
  | z :: zs, cs => by
    show (dropAll zs (dropStep cs z)).length = _
    rw [dropAll_len zs, dropStep_len]

theorem Rel.drop {a : Abs} {r : RA} (h : Rel a r) (zs : List Int) : (dropX a zs).2 = (rdropX r zs).2 ∧ Rel (dropX a zs).1 (rdropX r zs).1 := by
  unfold dropX rdropX
  rw [h.may]
  by_cases h0 : rmayX r zs = 0
  · rw [if_pos h0, if_pos h0]
    refine ⟨rfl, ?_⟩
    have hall : zs.all (wasR r) = true := by
      cases hh : zs.all (wasR r)
      · unfold rmayX at h0
        rw [if_pos hh] at h0
        cases h0
      · rfl
    have hz1 : ∀ z ∈ zs, 1 ≤ z := fun z hz => by
      have := List.all_eq_true.1 hall z hz
      simp only [wasR, decide_eq_true_eq] at this
      exact this.1
    have mem : ∀ i : Nat, (i + 1 ∈ zs.map Int.toNat) ↔ (i : Int) + 1 ∈ zs := fun i => by
      constructor
      · intro hm
        obtain ⟨z, hz, he⟩ := List.mem_map.1 hm
        have := hz1 z hz
        have e : z = (i : Int) + 1 := by omega
        rw [← e]
        exact hz
      · intro hm
        exact List.mem_map.2 ⟨_, hm, by omega⟩
    have get : ∀ (i : Nat) (c' : CellR), (dropAll zs r.cells)[i]? = some c' → ∃ c, r.cells[i]? = some c ∧ c' = if (i : Int) + 1 ∈ zs then { c with there := false } else c := fun i c' hi => by
      rw [dropAll_get zs r.cells hz1 i] at hi
      cases hc : r.cells[i]? with
      | none => rw [hc] at hi; cases hi
      | some c => rw [hc] at hi; cases hi; exact ⟨c, rfl, rfl⟩
    have fcells : (forgetX (dropA a zs)).cells = gone a.cells (zs.map Int.toNat) := by unfold forgetX; split <;> rfl
    have fgl : (forgetX (dropA a zs)).gl = a.gl := by unfold forgetX; split <;> rfl
    have fmade : (forgetX (dropA a zs)).made = a.made := by unfold forgetX; split <;> rfl
    have ffrs : (forgetX (dropA a zs)).frs = a.frs := by unfold forgetX; split <;> rfl
    have fsub : (forgetX (dropA a zs)).pss.Sublist a.pss := by
      unfold forgetX
      split
      · exact List.filter_sublist
      · exact List.Sublist.refl _
    have fin : ∀ p ∈ a.pss, ((forgetX (dropA a zs)).cells p).isSome = true → p ∈ (forgetX (dropA a zs)).pss := fun p hp hs => by
      rw [fcells] at hs
      unfold forgetX
      split
      · exact List.mem_filter.2 ⟨hp, hs⟩
      · exact hp
    have cellv : ∀ (i : Nat) (c' : CellR), (dropAll zs r.cells)[i]? = some c' → (forgetX (dropA a zs)).cells (i + 1) = if c'.there then some c'.fields else none := fun i c' hi => by
      obtain ⟨c, hci, rfl⟩ := get i c' hi
      rw [fcells]
      unfold gone
      by_cases hm : (i : Int) + 1 ∈ zs
      · rw [if_pos ((mem i).2 hm), if_pos hm]
        rfl
      · rw [if_neg (fun e => hm ((mem i).1 e)), if_neg hm]
        exact h.cell i c hci
    refine ⟨fgl.trans h.gl, by rw [fmade]; show a.made = (dropAll zs r.cells).length; rw [dropAll_len]; exact h.made, cellv, fun i hi => ?_, by rw [ffrs]; exact h.frl, by rw [ffrs]; exact h.fsort, by rw [ffrs, fmade]; exact h.fmade, by rw [ffrs, fmade]; exact h.num, h.psort.sublist fsub, fun i c' hi ht hh => ?_, fun p hp => ?_⟩
    · rw [fmade]
      rw [fcells] at hi
      unfold gone at hi
      split at hi
      · cases hi
      · exact h.inn i hi
    · have hv := cellv i c' hi
      obtain ⟨c, hci, he⟩ := get i c' hi
      by_cases hm : (i : Int) + 1 ∈ zs
      · rw [if_pos hm] at he
        rw [he] at ht
        cases ht
      · rw [if_neg hm] at he
        subst he
        exact fin _ (h.pin i c' hci ht hh) (by rw [hv, if_pos ht]; rfl)
    · obtain ⟨i, c, t, l, rfl, hci, hh, hl, hin⟩ := h.pis p (fsub.subset hp)
      refine ⟨i, if (i : Int) + 1 ∈ zs then { c with there := false } else c, t, l, rfl, ?_, ?_, hl, hin⟩
      · show (dropAll zs r.cells)[i]? = _
        rw [dropAll_get zs r.cells hz1 i, hci]
        rfl
      · split <;> exact hh
  · rw [if_neg h0, if_neg h0]
    exact ⟨rfl, h⟩

end Go.Proofs.Ytmdlebolmhnhaab
