import Derived.Test.YtjmbfjaahadbhaaGreatDoorQRaJ
import Derived.BigRegion
set_option linter.unusedVariables false
set_option linter.unusedSimpArgs false
namespace Go.Proofs.YtjmbfjaahadbhaaGreatDoor

/-! ### components get their numbers, in plain lists -/
theorem nodup_le {l : List Nat} {n : Nat} (h : l.Nodup) (hl : ∀ x ∈ l, x < n) : l.length ≤ n := by
  have p : l.Perm ((List.range n).filter (fun x => decide (x ∈ l))) := by
    rw [List.perm_ext_iff_of_nodup h (List.Pairwise.filter _ List.nodup_range)]
    intro a
    rw [List.mem_filter, List.mem_range]
    constructor
    · intro ha; exact ⟨hl a ha, by simp [ha]⟩
    · intro ha; simpa using ha.2
  rw [p.length_eq]
  have := List.length_filter_le (fun x => decide (x ∈ l)) (List.range n)
  rwa [List.length_range] at this
/-- The graph of the components, whose callees are lower. -/
structure NG (n : Nat) (lw : Nat → Nat) (cle clr : Nat → List Nat) : Prop where
  dn : ∀ c, c < n → ∀ d ∈ cle c, d < c
  nd : ∀ c, c < n → (cle c).Nodup
  rn : ∀ d, d < n → (clr d).Nodup
  bk : ∀ c d, c < n → d < n → (c ∈ clr d ↔ d ∈ cle c)
  rl : ∀ d, d < n → ∀ c ∈ clr d, c < n
  li : ∀ c d, c < n → d < n → lw c = lw d → c = d
/-- What holds between two that get their numbers. -/
structure NI (n : Nat) (lw : Nat → Nat) (cle : Nat → List Nat) (dn : List Nat) (number : Nat → Nat) (waits : Nat → Int) (can : List Int) : Prop where
  nd : dn.Nodup
  lt : ∀ c ∈ dn, c < n
  nu : ∀ i c, dn[i]? = some c → number c = i
  wt : ∀ c, c < n → waits c = (((cle c).countP (fun d => decide (d ∉ dn)) : Nat) : Int)
  rd : ∀ v : Int, v ∈ can ↔ ∃ c, c < n ∧ v = (lw c : Int) ∧ c ∉ dn ∧ waits c = 0
  cd : ∀ i c, dn[i]? = some c → ∀ d ∈ cle c, d ∈ dn.take i
  mn : ∀ i c, dn[i]? = some c → ∀ d, d < n → d ∉ dn.take i → (∀ e ∈ cle d, e ∈ dn.take i) → lw c ≤ lw d
/-- While the callers of the last one that got its number are looked at. -/
structure NM (n : Nat) (lw : Nat → Nat) (cle clr : Nat → List Nat) (dn : List Nat) (c i : Nat) (number : Nat → Nat) (waits : Nat → Int) (can : List Int) : Prop where
  nd : (dn ++ [c]).Nodup
  lt : ∀ d ∈ dn ++ [c], d < n
  nu : ∀ i d, (dn ++ [c])[i]? = some d → number d = i
  wt : ∀ d, d < n → waits d = (((cle d).countP (fun e => decide (e ∉ dn)) : Nat) : Int) - if d ∈ (clr c).take i then 1 else 0
  rd : ∀ v : Int, v ∈ can ↔ ∃ d, d < n ∧ v = (lw d : Int) ∧ d ∉ dn ++ [c] ∧ waits d = 0
  cd : ∀ i d, (dn ++ [c])[i]? = some d → ∀ e ∈ cle d, e ∈ (dn ++ [c]).take i
  mn : ∀ i d, (dn ++ [c])[i]? = some d → ∀ e, e < n → e ∉ (dn ++ [c]).take i → (∀ x ∈ cle e, x ∈ (dn ++ [c]).take i) → lw d ≤ lw e
section
variable {n : Nat} {lw : Nat → Nat} {cle clr : Nat → List Nat} {dn : List Nat} {number : Nat → Nat} {waits : Nat → Int} {can can' : List Int} {c i : Nat}
theorem wt_zero {l dn : List Nat} : l.countP (fun d => decide (d ∉ dn)) = 0 ↔ ∀ d ∈ l, d ∈ dn := by
  rw [List.countP_eq_zero]
  constructor
  · intro h d hd
    have := h d hd
    simpa using this
  · intro h d hd
    simpa using h d hd
theorem snoc_at {l : List Nat} {x y i : Nat} (h : (l ++ [x])[i]? = some y) : (l[i]? = some y ∧ i < l.length) ∨ (y = x ∧ i = l.length) := by
  rw [List.getElem?_append] at h
  split at h
  · rename_i k; exact Or.inl ⟨h, k⟩
  · rename_i k
    have e : i - l.length = 0 := by
      by_cases e : i - l.length = 0
      · exact e
      · rw [List.getElem?_eq_none (by simp; omega)] at h; cases h
    rw [e] at h
    simp at h
    exact Or.inr ⟨h.symm, by omega⟩
/-- The least that can be numbered gets its number. -/
theorem NI.pop (h : NI n lw cle dn number waits can) (hc : c < n) (hcd : c ∉ dn) (hw : waits c = 0) (hmin : ∀ u ∈ can, (lw c : Int) ≤ u) (hcan : ∀ x, x ∈ can' ↔ x ∈ can ∧ x ≠ (lw c : Int)) (hg : NG n lw cle clr) :
    NM n lw cle clr dn c 0 (Wg.upd number c dn.length) waits can' := by
  have hcl : ∀ d ∈ cle c, d ∈ dn := wt_zero.1 (by have := h.wt c hc; omega)
  refine ⟨?_, ?_, ?_, ?_, ?_, ?_, ?_⟩
  · rw [List.nodup_append]
    refine ⟨h.nd, by simp, fun a ha b hb e => ?_⟩
    rw [List.mem_singleton] at hb
    exact hcd (by rw [← hb, ← e]; exact ha)
  · intro d hd
    rw [List.mem_append, List.mem_singleton] at hd
    rcases hd with e | e
    · exact h.lt d e
    · rw [e]; exact hc
  · intro i d e
    rcases snoc_at e with ⟨e1, e2⟩ | ⟨e1, e2⟩
    · have : d ≠ c := fun x => hcd (by rw [← x]; exact List.mem_of_getElem? e1)
      rw [Wg.upd_ne _ _ this]
      exact h.nu i d e1
    · rw [e1, e2, Wg.upd_same]
  · intro d hd
    rw [h.wt d hd]
    simp
  · intro v
    rw [hcan, h.rd]
    constructor
    · rintro ⟨⟨d, d1, d2, d3, d4⟩, hne⟩
      refine ⟨d, d1, d2, ?_, d4⟩
      rw [List.mem_append, List.mem_singleton]
      rintro (e | e)
      · exact d3 e
      · exact hne (by rw [d2, e])
    · rintro ⟨d, d1, d2, d3, d4⟩
      rw [List.mem_append, List.mem_singleton] at d3
      refine ⟨⟨d, d1, d2, fun e => d3 (Or.inl e), d4⟩, fun e => d3 (Or.inr ?_)⟩
      exact hg.li d c d1 hc (by omega)
  · intro i d e x hx
    rcases snoc_at e with ⟨e1, e2⟩ | ⟨e1, e2⟩
    · rw [List.take_append_of_le_length (by omega)]
      exact h.cd i d e1 x hx
    · rw [e2, List.take_append_of_le_length (Nat.le_refl _), List.take_length]
      exact hcl x (by rw [← e1]; exact hx)
  · intro i d e x hx hxn hxc
    rcases snoc_at e with ⟨e1, e2⟩ | ⟨e1, e2⟩
    · rw [List.take_append_of_le_length (by omega)] at hxn hxc
      exact h.mn i d e1 x hx hxn hxc
    · rw [e2, List.take_append_of_le_length (Nat.le_refl _), List.take_length] at hxn hxc
      have k : (lw x : Int) ∈ can := (h.rd _).2 ⟨x, hx, rfl, hxn, by rw [h.wt x hx, wt_zero.2 hxc]; rfl⟩
      have := hmin _ k
      rw [e1]
      omega
theorem NM.caller (h : NM n lw cle clr dn c i number waits can) (hg : NG n lw cle clr) {d : Nat} (hd : (clr c)[i]? = some d) : d < n ∧ d ∉ dn ++ [c] ∧ 1 ≤ waits d ∧ (lw d : Int) ∉ can := by
  have hc : c < n := h.lt c (by simp)
  have hdm : d ∈ clr c := List.mem_of_getElem? hd
  have hdn := hg.rl c hc d hdm
  have hcd : c ∈ cle d := (hg.bk d c hdn hc).1 hdm
  have hcn : c ∉ dn := by
    have := h.nd
    rw [List.nodup_append] at this
    exact fun e => this.2.2 c e c (by simp) rfl
  have hnot : d ∉ dn ++ [c] := by
    rw [List.mem_append, List.mem_singleton]
    rintro (e | e)
    · obtain ⟨j, hj, ej⟩ := List.getElem_of_mem e
      have k := h.cd j d (by rw [List.getElem?_append, if_pos hj, List.getElem?_eq_getElem hj, ej]) c hcd
      rw [List.take_append_of_le_length (by omega)] at k
      exact hcn (List.mem_of_mem_take k)
    · have := hg.dn d hdn c hcd
      omega
  have hnt : d ∉ (clr c).take i := by
    intro e
    have hl : i < (clr c).length := by
      by_cases e2 : i < (clr c).length
      · exact e2
      · rw [List.getElem?_eq_none (by omega)] at hd; cases hd
    obtain ⟨j, hj, ej⟩ := List.getElem_of_mem e
    rw [List.getElem_take] at ej
    rw [List.length_take] at hj
    rw [List.getElem?_eq_getElem hl] at hd
    injection hd with hd
    exact (List.pairwise_iff_getElem.1 (hg.rn c hc)) j i (by omega) hl (by omega) (by rw [ej, hd])
  have hpos : 0 < (cle d).countP (fun e => decide (e ∉ dn)) := by
    rw [List.countP_pos_iff]
    exact ⟨c, hcd, by simp [hcn]⟩
  have hw := h.wt d hdn
  rw [if_neg hnt] at hw
  refine ⟨hdn, hnot, by omega, fun e => ?_⟩
  obtain ⟨x, x1, x2, x3, x4⟩ := (h.rd _).1 e
  have : d = x := hg.li d x hdn x1 (by omega)
  subst this
  omega
/-- One caller is looked at. -/
theorem NM.step (h : NM n lw cle clr dn c i number waits can) (hg : NG n lw cle clr) {d : Nat} (hd : (clr c)[i]? = some d) (hcan : ∀ x, x ∈ can' ↔ x ∈ can ∨ (x = (lw d : Int) ∧ waits d - 1 = 0)) :
    NM n lw cle clr dn c (i + 1) number (Wg.upd waits d (waits d - 1)) can' := by
  obtain ⟨k1, k2, k3, k4⟩ := h.caller hg hd
  have hc : c < n := h.lt c (by simp)
  have hl : i < (clr c).length := by
    by_cases e2 : i < (clr c).length
    · exact e2
    · rw [List.getElem?_eq_none (by omega)] at hd; cases hd
  have hnt : d ∉ (clr c).take i := by
    intro e
    obtain ⟨j, hj, ej⟩ := List.getElem_of_mem e
    rw [List.getElem_take] at ej
    rw [List.length_take] at hj
    rw [List.getElem?_eq_getElem hl] at hd
    injection hd with hd
    exact (List.pairwise_iff_getElem.1 (hg.rn c hc)) j i (by omega) hl (by omega) (by rw [ej, hd])
  have htk : (clr c).take (i + 1) = (clr c).take i ++ [d] := by rw [List.take_add_one, hd]; rfl
  refine ⟨h.nd, h.lt, h.nu, fun x hx => ?_, fun v => ?_, h.cd, h.mn⟩
  · rw [htk]
    by_cases e : x = d
    · subst e
      rw [Wg.upd_same, if_pos (by simp)]
      have := h.wt x hx
      rw [if_neg hnt] at this
      omega
    · rw [Wg.upd_ne _ _ e, h.wt x hx]
      congr 1
      simp [e]
  · rw [hcan, h.rd]
    constructor
    · rintro (⟨x, x1, x2, x3, x4⟩ | ⟨e1, e2⟩)
      · refine ⟨x, x1, x2, x3, ?_⟩
        rw [Wg.upd_ne _ _ (fun e => by subst e; omega)]
        exact x4
      · exact ⟨d, k1, e1, k2, by rw [Wg.upd_same]; exact e2⟩
    · rintro ⟨x, x1, x2, x3, x4⟩
      by_cases e : x = d
      · subst e
        rw [Wg.upd_same] at x4
        exact Or.inr ⟨x2, x4⟩
      · rw [Wg.upd_ne _ _ e] at x4
        exact Or.inl ⟨x, x1, x2, x3, x4⟩
theorem countP_less {l dn : List Nat} (h : l.Nodup) {c : Nat} (hc : c ∉ dn) : ((l.countP (fun e => decide (e ∉ dn ++ [c])) : Nat) : Int) = ((l.countP (fun e => decide (e ∉ dn)) : Nat) : Int) - if c ∈ l then 1 else 0 := by
  induction l with
  | nil => simp
  | cons x l ih =>
    rw [List.nodup_cons] at h
    have k := ih h.2
    rw [List.countP_cons, List.countP_cons]
    by_cases e : x = c
    · subst e
      have e1 : decide (x ∉ dn ++ [x]) = false := by simp
      have e2 : decide (x ∉ dn) = true := by simp [hc]
      rw [e1, e2]
      rw [if_neg h.1] at k
      simp
      simp at k
      omega
    · have e1 : decide (x ∉ dn ++ [c]) = decide (x ∉ dn) := by simp [e]
      rw [e1]
      have e2 : (c ∈ x :: l) = (c ∈ l) := by
        simp only [List.mem_cons, eq_iff_iff]
        exact ⟨fun q => q.resolve_left (fun q => e q.symm), Or.inr⟩
      simp only [e2]
      omega
theorem NM.end (h : NM n lw cle clr dn c (clr c).length number waits can) (hg : NG n lw cle clr) : NI n lw cle (dn ++ [c]) number waits can := by
  have hc : c < n := h.lt c (by simp)
  have hcn : c ∉ dn := by
    have := h.nd
    rw [List.nodup_append] at this
    exact fun e => this.2.2 c e c (by simp) rfl
  refine ⟨h.nd, h.lt, h.nu, fun d hd => ?_, h.rd, h.cd, h.mn⟩
  rw [h.wt d hd, countP_less (hg.nd d hd) hcn, List.take_length]
  congr 1
  have := hg.bk d c hd hc
  by_cases e : c ∈ cle d
  · rw [if_pos e, if_pos (this.2 e)]
  · rw [if_neg e, if_neg (fun x => e (this.1 x))]
/-- Before any has a number. -/
theorem NI.begin (hw : ∀ c, c < n → waits c = ((cle c).length : Int)) (hr : ∀ v : Int, v ∈ can ↔ ∃ c, c < n ∧ v = (lw c : Int) ∧ waits c = 0) : NI n lw cle [] number waits can := by
  refine ⟨List.nodup_nil, by simp, by simp, fun c hc => ?_, fun v => ?_, by simp, by simp⟩
  · rw [hw c hc]
    have : (cle c).countP (fun d => decide (d ∉ ([] : List Nat))) = (cle c).length := by
      rw [List.countP_eq_length]
      simp
    rw [this]
  · rw [hr]
    simp
theorem NI.all (h : NI n lw cle dn number waits []) (hg : NG n lw cle clr) : ∀ c, c < n → c ∈ dn := by
  intro c
  induction c using Nat.strongRecOn with
  | ind c ih =>
    intro hc
    by_cases e : c ∈ dn
    · exact e
    · exfalso
      have k : ∀ d ∈ cle c, d ∈ dn := fun d hd => by
        have := hg.dn c hc d hd
        exact ih d this (by omega)
      have := (h.rd (lw c : Int)).2 ⟨c, hc, rfl, e, by rw [h.wt c hc, wt_zero.2 k]; rfl⟩
      cases this
theorem NI.le (h : NI n lw cle dn number waits can) : dn.length ≤ n := nodup_le h.nd h.lt
theorem NI.less (h : NI n lw cle dn number waits can) (hc : c < n) (hcd : c ∉ dn) : dn.length < n := by
  have := nodup_le (l := dn ++ [c]) (n := n) (by
    rw [List.nodup_append]
    refine ⟨h.nd, by simp, fun a ha b hb e => ?_⟩
    rw [List.mem_singleton] at hb
    exact hcd (by rw [← hb, ← e]; exact ha)) (by
    intro x hx
    rw [List.mem_append, List.mem_singleton] at hx
    rcases hx with e | e
    · exact h.lt x e
    · rw [e]; exact hc)
  rw [List.length_append, List.length_singleton] at this
  omega
/-- What the numbers are, once all have one. -/
theorem NI.told (h : NI n lw cle dn number waits []) (hg : NG n lw cle clr) :
    (∀ c, c < n → number c < n) ∧ (∀ c d, c < n → d < n → number c = number d → c = d) ∧ (∀ k, k < n → ∃ c, c < n ∧ number c = k) ∧ (∀ c, c < n → ∀ d ∈ cle c, number d < number c) ∧ ∀ c d, c < n → d < n → number c ≤ number d → (∀ e ∈ cle d, number e < number c) → lw c ≤ lw d := by
  have all := h.all hg
  have hlen : dn.length = n := by
    have p : dn.Perm (List.range n) := by
      rw [List.perm_ext_iff_of_nodup h.nd List.nodup_range]
      intro a
      rw [List.mem_range]
      exact ⟨h.lt a, all a⟩
    rw [p.length_eq, List.length_range]
  have at_ : ∀ c, c < n → dn[number c]? = some c ∧ number c < n := fun c hc => by
    obtain ⟨i, hi, ei⟩ := List.getElem_of_mem (all c hc)
    have k := h.nu i c (by rw [List.getElem?_eq_getElem hi, ei])
    rw [k]
    exact ⟨by rw [List.getElem?_eq_getElem hi, ei], by omega⟩
  have tk : ∀ c d, d < n → d ∈ dn.take c → number d < c := fun c d hd hm => by
    obtain ⟨j, hj, ej⟩ := List.getElem_of_mem hm
    rw [List.getElem_take] at ej
    rw [List.length_take] at hj
    have := h.nu j d (by rw [List.getElem?_eq_getElem (by omega), ej])
    omega
  have tk2 : ∀ c d, d < n → number d < c → d ∈ dn.take c := fun c d hd hl => by
    rw [List.mem_take_iff_getElem]
    obtain ⟨k1, k2⟩ := at_ d hd
    rw [List.getElem?_eq_getElem (by omega)] at k1
    injection k1 with k1
    exact ⟨number d, by omega, k1⟩
  refine ⟨fun c hc => (at_ c hc).2, fun c d hc hd e => ?_, fun k hk => ?_, fun c hc d hd => ?_, fun c d hc hd hle hall => ?_⟩
  · have k1 := (at_ c hc).1
    have k2 := (at_ d hd).1
    rw [e, k2] at k1
    injection k1 with k1
    exact k1.symm
  · refine ⟨dn[k]'(by omega), h.lt _ (List.getElem_mem _), h.nu k _ (List.getElem?_eq_getElem (by omega))⟩
  · have hdn := hg.dn c hc d hd
    exact tk _ d (by omega) (h.cd _ c (at_ c hc).1 d hd)
  · refine h.mn _ c (at_ c hc).1 d hd (fun e => ?_) (fun e he => ?_)
    · have := tk _ d hd e
      omega
    · have hed := hg.dn d hd e he
      exact tk2 _ e (by omega) (hall e he)
end

/-! ### the graph of the components, in plain lists -/
/-- A component's functions. -/
def memX (N : Nat) (of : Nat → Nat) (c : Nat) : List Nat := (List.range N).filter (fun f => of f == c)
/-- Does a function of c call one of d? -/
def hitX (N : Nat) (of : Nat → Nat) (cl : Nat → List Nat) (c d : Nat) : Bool := (memX N of c).any (fun f => (cl f).any (fun g => of g == d))
def clrX (N n : Nat) (of : Nat → Nat) (cl : Nat → List Nat) (d : Nat) : List Nat := (List.range n).filter (fun c => c != d && hitX N of cl c d)
def cleX (N n : Nat) (of : Nat → Nat) (cl : Nat → List Nat) (c : Nat) : List Nat := (List.range n).filter (fun d => c != d && hitX N of cl c d)
section
variable {N n : Nat} {of : Nat → Nat} {cl : Nat → List Nat}
theorem mem_memX {c f : Nat} : f ∈ memX N of c ↔ f < N ∧ of f = c := by unfold memX; rw [List.mem_filter, List.mem_range]; simp
theorem memX_next (f c : Nat) : memX (f + 1) of c = if of f = c then memX f of c ++ [f] else memX f of c := by
  unfold memX
  rw [List.range_succ, List.filter_append]
  by_cases e : of f = c
  · rw [if_pos e]; simp [e]
  · rw [if_neg e]; simp [e]
theorem memX_rise (c : Nat) : (memX N of c).Pairwise (· < ·) := List.Pairwise.filter _ List.pairwise_lt_range
theorem hitX_iff {c d : Nat} : hitX N of cl c d = true ↔ ∃ f, f < N ∧ of f = c ∧ ∃ g ∈ cl f, of g = d := by
  unfold hitX
  rw [List.any_eq_true]
  constructor
  · rintro ⟨f, h1, h2⟩
    rw [mem_memX] at h1
    rw [List.any_eq_true] at h2
    obtain ⟨g, g1, g2⟩ := h2
    exact ⟨f, h1.1, h1.2, g, g1, by simpa using g2⟩
  · rintro ⟨f, h1, h2, g, h3, h4⟩
    exact ⟨f, mem_memX.2 ⟨h1, h2⟩, List.any_eq_true.2 ⟨g, h3, by simp [h4]⟩⟩
theorem mem_clrX {c d : Nat} : c ∈ clrX N n of cl d ↔ c < n ∧ c ≠ d ∧ hitX N of cl c d = true := by unfold clrX; rw [List.mem_filter, List.mem_range]; simp
theorem mem_cleX {c d : Nat} : d ∈ cleX N n of cl c ↔ d < n ∧ c ≠ d ∧ hitX N of cl c d = true := by unfold cleX; rw [List.mem_filter, List.mem_range]; simp
theorem clrX_rise (c : Nat) : (clrX N n of cl c).Pairwise (· < ·) := List.Pairwise.filter _ List.pairwise_lt_range
theorem cleX_rise (c : Nat) : (cleX N n of cl c).Pairwise (· < ·) := List.Pairwise.filter _ List.pairwise_lt_range
theorem rise_nodup {l : List Nat} (h : l.Pairwise (· < ·)) : l.Nodup := h.imp (fun h => Nat.ne_of_lt h)
/-- The callers as far as they are told: all of the components ahead of c, and c, where h says so. -/
def cP (N : Nat) (of : Nat → Nat) (cl : Nat → List Nat) (c : Nat) (h : Nat → Bool) (d : Nat) : List Nat := clrX N c of cl d ++ if c != d && h d then [c] else []
theorem cP_first (c : Nat) : cP N of cl c (fun _ => false) = clrX N c of cl := by
  funext d; unfold cP; simp
theorem cP_last (c : Nat) : cP N of cl c (fun d => hitX N of cl c d) = clrX N (c + 1) of cl := by
  funext d
  unfold cP clrX
  rw [List.range_succ, List.filter_append]
  congr 1
  by_cases e : (c != d && hitX N of cl c d) = true
  · rw [if_pos e]; simp [e]
  · rw [if_neg e]; simp at e; simp; exact e
/-- One more call of c's: of d0. -/
theorem cP_step (c d0 : Nat) (h : Nat → Bool) : cP N of cl c (fun d => h d || d0 == d) = Wg.upd (cP N of cl c h) d0 (if c = d0 ∨ h d0 = true then cP N of cl c h d0 else cP N of cl c h d0 ++ [c]) := by
  funext d
  by_cases e : d = d0
  · subst e
    rw [Wg.upd_same]
    unfold cP
    by_cases e1 : c = d
    · simp [e1]
    · by_cases e2 : h d = true
      · simp [e2]
      · simp [e1, e2]
  · rw [Wg.upd_ne _ _ e]
    unfold cP
    have : (d0 == d) = false := by simp; exact fun x => e x.symm
    simp [this]
/-- What addCaller looks at. -/
theorem cP_test (c d0 : Nat) (h : Nat → Bool) (hc : c ≠ d0) : (∃ l, cP N of cl c h d0 = l ++ [c]) ↔ h d0 = true := by
  unfold cP
  constructor
  · rintro ⟨l, e⟩
    by_cases e2 : h d0 = true
    · exact e2
    · exfalso
      have e3 : h d0 = false := by simpa using e2
      rw [e3] at e
      simp at e
      have : c ∈ clrX N c of cl d0 := by rw [e]; simp
      have := (mem_clrX.1 this).1
      omega
  · intro e
    refine ⟨clrX N c of cl d0, ?_⟩
    simp [e, hc]
/-- The callees as far as they are told: of all ahead of d, and d, where P says so. -/
def eP (N : Nat) (of : Nat → Nat) (cl : Nat → List Nat) (d : Nat) (P : List Nat) (c : Nat) : List Nat := cleX N d of cl c ++ if c ∈ P then [d] else []
theorem eP_first (d : Nat) : eP N of cl d [] = cleX N d of cl := by funext c; unfold eP; simp
theorem eP_last {d c : Nat} (hc : c < n) : eP N of cl d (clrX N n of cl d) c = cleX N (d + 1) of cl c := by
  unfold eP cleX
  rw [List.range_succ, List.filter_append]
  congr 1
  by_cases e : (c != d && hitX N of cl c d) = true
  · rw [if_pos (mem_clrX.2 ⟨hc, by simpa using e⟩)]; simp [e]
  · rw [if_neg (fun x => e (by have := mem_clrX.1 x; simpa using this.2))]; simp at e; simp; exact e
theorem eP_step {d c : Nat} {P : List Nat} (hc : c ∉ P) : eP N of cl d (P ++ [c]) = Wg.upd (eP N of cl d P) c (eP N of cl d P c ++ [d]) := by
  funext x
  by_cases e : x = c
  · subst e
    rw [Wg.upd_same]
    unfold eP
    simp [hc]
  · rw [Wg.upd_ne _ _ e]
    unfold eP
    simp [e]
end
/-- A component's lowest function. -/
def lwX (N : Nat) (of : Nat → Nat) (c : Nat) : Nat := (memX N of c).headD 0
/-- What is known of components: they are the rings, callees have lower numbers. -/
structure Rg (N : Nat) (cl : Nat → List Nat) (n : Nat) (of : Nat → Nat) : Prop where
  lt : ∀ x, x < N → of x < n
  on : ∀ c, c < n → ∃ x, x < N ∧ of x = c
  eq : ∀ x y, x < N → y < N → (of x = of y ↔ Rch cl x y ∧ Rch cl y x)
  dn : ∀ x y, x < N → y < N → Rch cl x y → of y ≤ of x
section
variable {N n : Nat} {of : Nat → Nat} {cl : Nat → List Nat}
theorem Rg.low (h : Rg N cl n of) {c : Nat} (hc : c < n) : ∃ r, memX N of c = lwX N of c :: r ∧ lwX N of c < N ∧ of (lwX N of c) = c := by
  obtain ⟨x, x1, x2⟩ := h.on c hc
  have hm : x ∈ memX N of c := mem_memX.2 ⟨x1, x2⟩
  cases e : memX N of c with
  | nil => rw [e] at hm; cases hm
  | cons y r =>
    have hl : lwX N of c = y := by unfold lwX; rw [e]; rfl
    have : y ∈ memX N of c := by rw [e]; simp
    rw [hl]
    exact ⟨r, rfl, mem_memX.1 this⟩
theorem Rg.graph (h : Rg N cl n of) (hcl : ∀ x, x < N → ∀ z ∈ cl x, z < N) : NG n (lwX N of) (cleX N n of cl) (clrX N n of cl) := by
  refine ⟨fun c hc d hd => ?_, fun c _ => rise_nodup (cleX_rise c), fun c _ => rise_nodup (clrX_rise c), fun c d hc hd => ?_, fun d _ c hc => (mem_clrX.1 hc).1, fun c d hc hd e => ?_⟩
  · obtain ⟨d1, d2, d3⟩ := mem_cleX.1 hd
    obtain ⟨f, f1, f2, g, g1, g2⟩ := hitX_iff.1 d3
    have := h.dn f g f1 (hcl f f1 g g1) (.step (.refl f) g1)
    omega
  · rw [mem_clrX, mem_cleX]
    simp [hc, hd]
  · obtain ⟨-, -, -, k1⟩ := h.low hc
    obtain ⟨-, -, -, k2⟩ := h.low hd
    rw [← k1, ← k2, e]
/-- What New tells: the rings, numbered so that of those that could be numbered the one with the lowest function came first. -/
structure Gp (N : Nat) (cl : Nat → List Nat) (n : Nat) (of : Nat → Nat) : Prop extends Rg N cl n of where
  mn : ∀ c d, c < d → d < n → (∀ e ∈ cleX N n of cl d, e < c) → lwX N of c ≤ lwX N of d
theorem Rg.numbered (h : Rg N cl n of) (hcl : ∀ x, x < N → ∀ z ∈ cl x, z < N) {dn : List Nat} {number : Nat → Nat} {waits : Nat → Int} (hn : NI n (lwX N of) (cleX N n of cl) dn number waits []) : Gp N cl n (fun x => number (of x)) := by
  have hg := h.graph hcl
  obtain ⟨n1, n2, n3, n4, n5⟩ := hn.told hg
  have hmem : ∀ c, c < n → memX N (fun x => number (of x)) (number c) = memX N of c := fun c hc => by
    unfold memX
    apply List.filter_congr
    intro x hx
    rw [List.mem_range] at hx
    rw [Bool.eq_iff_iff]
    simp only [beq_iff_eq]
    exact ⟨fun e => n2 _ _ (h.lt x hx) hc e, fun e => by rw [e]⟩
  refine { lt := fun x hx => n1 _ (h.lt x hx), on := fun c hc => ?_, eq := fun x y hx hy => ?_, dn := fun x y hx hy hr => ?_, mn := fun c d hcd hd hall => ?_ }
  · obtain ⟨c0, h1, h2⟩ := n3 c hc
    obtain ⟨x, x1, x2⟩ := h.on c0 h1
    exact ⟨x, x1, by rw [x2, h2]⟩
  · rw [← h.eq x y hx hy]
    exact ⟨fun e => n2 _ _ (h.lt x hx) (h.lt y hy) e, fun e => by rw [e]⟩
  · have key : ∀ x y, x < N → Rch cl x y → y < N ∧ number (of y) ≤ number (of x) := by
      intro x y hx k
      induction k with
      | refl => exact ⟨hx, Nat.le_refl _⟩
      | @step y z _ m ih =>
        have hz := hcl y ih.1 z m
        refine ⟨hz, ?_⟩
        by_cases e : of y = of z
        · rw [← e]; exact ih.2
        · have := n4 (of y) (h.lt y ih.1) (of z) (mem_cleX.2 ⟨h.lt z hz, e, hitX_iff.2 ⟨y, ih.1, rfl, z, m, rfl⟩⟩)
          have := ih.2
          omega
    exact (key x y hx hr).2
  · obtain ⟨c0, c1, c2⟩ := n3 c (by omega)
    obtain ⟨d0, d1, d2⟩ := n3 d hd
    subst c2 d2
    have e1 : lwX N (fun x => number (of x)) (number c0) = lwX N of c0 := by unfold lwX; rw [hmem c0 c1]
    have e2 : lwX N (fun x => number (of x)) (number d0) = lwX N of d0 := by unfold lwX; rw [hmem d0 d1]
    rw [e1, e2]
    refine n5 c0 d0 c1 d1 (by omega) (fun e he => ?_)
    obtain ⟨e3, e4, e5⟩ := mem_cleX.1 he
    refine hall _ (mem_cleX.2 ⟨n1 e e3, fun x => e4 (n2 _ _ d1 e3 x), ?_⟩)
    obtain ⟨f, f1, f2, g, g1, g2⟩ := hitX_iff.1 e5
    exact hitX_iff.2 ⟨f, f1, by rw [f2], g, g1, by rw [g2]⟩
/-- Out of the search. -/
theorem TI.rg {ofi : Nat → Int} {met low nxt : Nat → Nat} {opn : List Nat} {count steps : Nat} (h : TI N cl ofi met low nxt [] opn count steps) (hm : ∀ x, x < N → met x ≠ 0) : Rg N cl count (fun x => (ofi x).toNat) := by
  refine ⟨fun x hx => ?_, fun c hc => ?_, fun x y hx hy => ?_, fun x y hx hy hr => ?_⟩
  · have := (h.rings hm x x hx hx).1
    show (ofi x).toNat < count
    omega
  · obtain ⟨x, e⟩ := h.cs c hc
    refine ⟨x, h.mN x (h.cm x (by omega)).1, ?_⟩
    show (ofi x).toNat = c
    omega
  · obtain ⟨k1, -, k3⟩ := h.rings hm x y hx hy
    have k2 := (h.rings hm y y hy hy).1
    rw [← k3]
    show (ofi x).toNat = (ofi y).toNat ↔ _
    omega
  · obtain ⟨k1, k2, -⟩ := h.rings hm x y hx hy
    have k4 := (h.rings hm y y hy hy).1
    have := k2 hr
    show (ofi y).toNat ≤ (ofi x).toNat
    omega
end
end Go.Proofs.YtjmbfjaahadbhaaGreatDoor
namespace Go.Proofs.YtjmbfjaahadbhaaGreatDoor
open Go.RowKit (wrap32 wrap64)

/-! ### the search and what holds of it -/
/-- Numbers that lie below a block's number. -/
def IB (n0 : Nat) (w : World) (v : Value) (l : List Int) : Prop :=
  ∃ a c, v = .slice a l.length c ∧ (l ≠ [] → ∃ k o, a = some ⟨k, o, none⟩ ∧ k < n0 ∧ ∀ i (h : i < l.length), w.cell? ⟨k, o + i, none⟩ = some (vI l[i]))
/-- Lists of numbers that lie below a block's number. -/
def LB (n0 : Nat) (w : World) (v : Value) (ls : List (List Int)) : Prop :=
  ∃ a c, v = .slice a ls.length c ∧ (ls ≠ [] → ∃ k o, a = some ⟨k, o, none⟩ ∧ k < n0 ∧ ∀ i (h : i < ls.length), ∃ u, w.cell? ⟨k, o + i, none⟩ = some u ∧ IB n0 w u ls[i])
theorem IB.fr {S : Nat → Prop} {n0 : Nat} {w w' : World} {v : Value} {l : List Int} (h : IB n0 w v l) (hn : n0 ≤ w.heap.size) (f : Fr S w w') (hS : ∀ k, k < n0 → ¬ S k) : IB n0 w' v l := by
  obtain ⟨a, c, e, h⟩ := h
  refine ⟨a, c, e, fun hne => ?_⟩
  obtain ⟨k, o, e, hk, h⟩ := h hne
  exact ⟨k, o, e, hk, fun i hi => (f.cell (by omega) (hS k hk)).trans (h i hi)⟩
theorem LB.fr {S : Nat → Prop} {n0 : Nat} {w w' : World} {v : Value} {ls : List (List Int)} (h : LB n0 w v ls) (hn : n0 ≤ w.heap.size) (f : Fr S w w') (hS : ∀ k, k < n0 → ¬ S k) : LB n0 w' v ls := by
  obtain ⟨a, c, e, h⟩ := h
  refine ⟨a, c, e, fun hne => ?_⟩
  obtain ⟨k, o, e, hk, h⟩ := h hne
  refine ⟨k, o, e, hk, fun i hi => ?_⟩
  obtain ⟨u, u1, u2⟩ := h i hi
  exact ⟨u, (f.cell (by omega) (hS k hk)).trans u1, u2.fr hn f hS⟩
/-- Numbers as the memory has them. -/
abbrev zL (l : List Nat) : List Int := l.map (fun x : Nat => (x : Int))
abbrev zF (f : Nat → Nat) : Nat → Int := fun i => (f i : Int)
/-- The lists of who calls whom, as the memory has them. -/
abbrev zLs (N : Nat) (cl : Nat → List Nat) : List (List Int) := (List.range N).map (fun f => zL (cl f))
/-- The search, and what holds of it. -/
structure Se (w : World) (B0 B b go gm gl gn N : Nat) (cl : Nat → List Nat) (clv : Value) (of : Nat → Int) (met low nxt : Nat → Nat) (path opn : List Nat) (count steps : Nat) : Prop where
  sc : ∃ pv ov, Sc w B b go gm gl gn N clv pv ov of (zF met) (zF low) (zF nxt) count steps (zL path) (zL opn)
  la : LB B0 w clv (zLs N cl)
  ti : TI N cl of met low nxt path opn count steps
  hB : B0 ≤ b ∧ B0 ≤ go ∧ B0 ≤ gm ∧ B0 ≤ gl ∧ B0 ≤ gn ∧ B0 ≤ B ∧ B ≤ w.heap.size
theorem zF_upd (f : Nat → Nat) (i x : Nat) : Wg.upd (zF f) i (x : Int) = zF (Wg.upd f i x) := by
  funext j
  unfold Wg.upd
  show _ = ((if j = i then x else f j : Nat) : Int)
  split <;> rfl
theorem zL_app (l : List Nat) (x : Nat) : zL (l ++ [x]) = zL l ++ [(x : Int)] := by simp
section
variable {w w' : World} {B b go gm gl gn N : Nat} {clv pv ov : Value} {of met low nxt : Nat → Int} {count steps : Nat} {path opn : List Int}
theorem Sc.setSteps (h : Sc w B b go gm gl gn N clv pv ov of met low nxt count steps path opn) : Sc (w.setCell ⟨b, 8, none⟩ (vI ((steps + 1 : Nat) : Int))) B b go gm gl gn N clv pv ov of met low nxt count (steps + 1) path opn := by
  have f : Fr (fun j => j = b) w (w.setCell ⟨b, 8, none⟩ (vI ((steps + 1 : Nat) : Int))) := setCell_fr w b 8 _
  obtain ⟨l0, l1, l2, l3, l4⟩ := h.lt
  exact ⟨set_of h.blk 8 _, h.rof.fr f (row3_ne h.blk h.rof), h.rme.fr f (row3_ne h.blk h.rme), h.rlo.fr f (row3_ne h.blk h.rlo), h.rnx.fr f (row3_ne h.blk h.rnx), h.rp.fr f (fun k e e2 => by have := (h.rp.ge k e).1; omega), h.ro.fr f (fun k e e2 => by have := (h.ro.ge k e).1; omega), h.lt, h.ne, h.ap⟩
theorem Sc.setMet (h : Sc w B b go gm gl gn N clv pv ov of met low nxt count steps path opn) (i : Nat) (x : Int) : Sc (w.setCell ⟨gm, i, none⟩ (vI x)) B b go gm gl gn N clv pv ov of (Wg.upd met i x) low nxt count steps path opn := by
  have f : Fr (fun j => j = gm) w (w.setCell ⟨gm, i, none⟩ (vI x)) := setCell_fr w gm i _
  obtain ⟨n1, n2, n3, n4, n5, n6⟩ := h.ne
  obtain ⟨l0, l1, l2, l3, l4⟩ := h.lt
  exact ⟨(f.block b (heap_lt0 h.blk) (fun e => row3_ne h.blk h.rme e.symm)).trans h.blk, h.rof.fr f n1, h.rme.setI i x, h.rlo.fr f (fun e => n4 e.symm), h.rnx.fr f (fun e => n5 e.symm), h.rp.fr f (fun k e e2 => by have := (h.rp.ge k e).1; omega), h.ro.fr f (fun k e e2 => by have := (h.ro.ge k e).1; omega), h.lt, h.ne, h.ap⟩
theorem Sc.setLow (h : Sc w B b go gm gl gn N clv pv ov of met low nxt count steps path opn) (i : Nat) (x : Int) : Sc (w.setCell ⟨gl, i, none⟩ (vI x)) B b go gm gl gn N clv pv ov of met (Wg.upd low i x) nxt count steps path opn := by
  have f : Fr (fun j => j = gl) w (w.setCell ⟨gl, i, none⟩ (vI x)) := setCell_fr w gl i _
  obtain ⟨n1, n2, n3, n4, n5, n6⟩ := h.ne
  obtain ⟨l0, l1, l2, l3, l4⟩ := h.lt
  exact ⟨(f.block b (heap_lt0 h.blk) (fun e => row3_ne h.blk h.rlo e.symm)).trans h.blk, h.rof.fr f n2, h.rme.fr f n4, h.rlo.setI i x, h.rnx.fr f (fun e => n6 e.symm), h.rp.fr f (fun k e e2 => by have := (h.rp.ge k e).1; omega), h.ro.fr f (fun k e e2 => by have := (h.ro.ge k e).1; omega), h.lt, h.ne, h.ap⟩
theorem Sc.setNxt (h : Sc w B b go gm gl gn N clv pv ov of met low nxt count steps path opn) (i : Nat) (x : Int) : Sc (w.setCell ⟨gn, i, none⟩ (vI x)) B b go gm gl gn N clv pv ov of met low (Wg.upd nxt i x) count steps path opn := by
  have f : Fr (fun j => j = gn) w (w.setCell ⟨gn, i, none⟩ (vI x)) := setCell_fr w gn i _
  obtain ⟨n1, n2, n3, n4, n5, n6⟩ := h.ne
  obtain ⟨l0, l1, l2, l3, l4⟩ := h.lt
  exact ⟨(f.block b (heap_lt0 h.blk) (fun e => row3_ne h.blk h.rnx e.symm)).trans h.blk, h.rof.fr f n3, h.rme.fr f n5, h.rlo.fr f n6, h.rnx.setI i x, h.rp.fr f (fun k e e2 => by have := (h.rp.ge k e).1; omega), h.ro.fr f (fun k e e2 => by have := (h.ro.ge k e).1; omega), h.lt, h.ne, h.ap⟩
/-- The path is another one, cut or gone on with. -/
theorem Sc.setPath {w6 : World} {pv' : Value} {path' : List Int} (h : Sc w B b go gm gl gn N clv pv ov of met low nxt count steps path opn) (hg : Fr (fun k => pv.ownBlock = some k) w w6) (ho : IOwn w6 B pv' path') (ha : ∀ k, pv'.ownBlock = some k → pv.ownBlock = some k ∨ w.heap.size ≤ k) :
    Sc (w6.setCell ⟨b, 6, none⟩ pv') B b go gm gl gn N clv pv' ov of met low nxt count steps path' opn ∧ w6.cell? ⟨b, 6, none⟩ = some pv ∧ w6.frozen? ⟨b, 6, none⟩ = false := by
  obtain ⟨l0, l1, l2, l3, l4⟩ := h.lt
  have hge : ∀ k, pv.ownBlock = some k → B ≤ k := fun k e => (h.rp.ge k e).1
  have hb6 := (hg.block b (heap_lt0 h.blk) (fun e => by have := hge b e; omega)).trans h.blk
  have f := setCell_fr w6 b 6 pv'
  have r : ∀ {g : Nat} {x : Nat → Value}, Wg.Row w 3 g N x → g < B → Wg.Row (w6.setCell ⟨b, 6, none⟩ pv') 3 g N x := fun {g x} k hgB => by
    have k6 := k.fr hg (fun e => by have := hge _ e; omega)
    exact k6.fr f (row3_ne hb6 k6)
  have ho6 : IOwn w6 B ov opn := h.ro.fr hg (fun k e e2 => h.ap k e2 e)
  refine ⟨⟨set_of hb6 6 _, r h.rof l1, r h.rme l2, r h.rlo l3, r h.rnx l4, ho.fr f (fun k e e2 => by have := (ho.ge k e).1; omega), ho6.fr f (fun k e e2 => by have := (ho6.ge k e).1; omega), h.lt, h.ne, fun k e e2 => ?_⟩, by rw [cell_of0 hb6]; rfl, frozen_of hb6 6⟩
  rcases ha k e with e3 | e3
  · exact h.ap k e3 e2
  · have := (h.ro.ge k e2).2; omega
theorem Sc.setOpn {w6 : World} {ov' : Value} {opn' : List Int} (h : Sc w B b go gm gl gn N clv pv ov of met low nxt count steps path opn) (hg : Fr (fun k => ov.ownBlock = some k) w w6) (ho : IOwn w6 B ov' opn') (ha : ∀ k, ov'.ownBlock = some k → ov.ownBlock = some k ∨ w.heap.size ≤ k) :
    Sc (w6.setCell ⟨b, 7, none⟩ ov') B b go gm gl gn N clv pv ov' of met low nxt count steps path opn' ∧ w6.cell? ⟨b, 7, none⟩ = some ov ∧ w6.frozen? ⟨b, 7, none⟩ = false := by
  obtain ⟨l0, l1, l2, l3, l4⟩ := h.lt
  have hge : ∀ k, ov.ownBlock = some k → B ≤ k := fun k e => (h.ro.ge k e).1
  have hb6 := (hg.block b (heap_lt0 h.blk) (fun e => by have := hge b e; omega)).trans h.blk
  have f := setCell_fr w6 b 7 ov'
  have r : ∀ {g : Nat} {x : Nat → Value}, Wg.Row w 3 g N x → g < B → Wg.Row (w6.setCell ⟨b, 7, none⟩ ov') 3 g N x := fun {g x} k hgB => by
    have k6 := k.fr hg (fun e => by have := hge _ e; omega)
    exact k6.fr f (row3_ne hb6 k6)
  have ho6 : IOwn w6 B pv path := h.rp.fr hg (fun k e e2 => h.ap k e e2)
  refine ⟨⟨set_of hb6 7 _, r h.rof l1, r h.rme l2, r h.rlo l3, r h.rnx l4, ho6.fr f (fun k e e2 => by have := (ho6.ge k e).1; omega), ho.fr f (fun k e e2 => by have := (ho.ge k e).1; omega), h.lt, h.ne, fun k e e2 => ?_⟩, by rw [cell_of0 hb6]; rfl, frozen_of hb6 7⟩
  rcases ha k e2 with e3 | e3
  · exact h.ap k e e3
  · have := (h.rp.ge k e).2; omega
end

/-! ### rows of lists of their own -/
structure Cr (w : World) (B cg r : Nat) (cv : Nat → Value) (cl : Nat → List Int) : Prop where
  row : Wg.Row w 25 cg r cv
  own : ∀ i, i < r → IOwn w B (cv i) (cl i)
  ap : ∀ i j, i < r → j < r → i ≠ j → ∀ k, (cv i).ownBlock = some k → (cv j).ownBlock ≠ some k
theorem Cr.stay {w w' : World} {B cg r : Nat} {cv : Nat → Value} {cl : Nat → List Int} (h : Cr w B cg r cv cl) (f : Fr (fun _ => False) w w') : Cr w' B cg r cv cl :=
  ⟨h.row.fr f (fun e => e), fun i hi => (h.own i hi).fr f (fun _ _ e => e), h.ap⟩
theorem iown_row_ne {w : World} {B cg r : Nat} {t : TypeId} {cv : Nat → Value} {v : Value} {l : List Int} (h : Wg.Row w t cg r cv) (ht : t ≠ 3) (k : IOwn w B v l) : v.ownBlock ≠ some cg := by
  intro e
  rcases k.2 with ⟨e1, -⟩ | ⟨g, cap, cur, e1, -, h2, -⟩
  · rw [e1] at e; cases e
  · rw [e1] at e
    cases e
    obtain ⟨cs, h1, -⟩ := h
    rw [h1] at h2
    injection h2 with h2
    injection h2 with _ h2
    exact ht h2
/-- One more caller. -/
theorem Cr.app {w w6 : World} {B cg r g6 cap6 m : Nat} {cv : Nat → Value} {cl : Nat → List Int} {x : Int} (h : Cr w B cg r cv cl) (hm : m < r) (hg : w.grownBy w6 (cv m).ownBlock) (ho : IOwn w6 B (.slice (some ⟨g6, 0, none⟩) ((cl m).length + 1) cap6) (cl m ++ [x])) (hat : (cv m).ownBlock = some g6 ∨ w.heap.size ≤ g6) :
    Cr (w6.setCell ⟨cg, m, none⟩ (.slice (some ⟨g6, 0, none⟩) ((cl m).length + 1) cap6)) B cg r (Wg.upd cv m (.slice (some ⟨g6, 0, none⟩) ((cl m).length + 1) cap6)) (Wg.upd cl m (cl m ++ [x])) := by
  have f := grown_frL hg
  have hrow6 : Wg.Row w6 25 cg r cv := h.row.fr f (fun e => iown_row_ne h.row (by decide) (h.own m hm) e)
  have fs := setCell_fr w6 cg m (.slice (some ⟨g6, 0, none⟩) ((cl m).length + 1) cap6)
  refine ⟨hrow6.set m _, fun i hi => ?_, fun i j hi hj hne k e1 e2 => ?_⟩
  · by_cases e : i = m
    · subst e
      rw [Wg.upd_same, Wg.upd_same]
      exact ho.fr fs (fun k e e2 => by rw [e2] at e; exact iown_row_ne hrow6 (by decide) ho e)
    · rw [Wg.upd_ne _ _ e, Wg.upd_ne _ _ e]
      have h1 : IOwn w6 B (cv i) (cl i) := (h.own i hi).fr f (fun k e1 e2 => h.ap i m hi hm e k e1 e2)
      exact h1.fr fs (fun k e e2 => by rw [e2] at e; exact iown_row_ne hrow6 (by decide) h1 e)
  · have hlt : ∀ i, i < r → ∀ k, (cv i).ownBlock = some k → k < w.heap.size := fun i hi k e => ((h.own i hi).ge k e).2
    by_cases ei : i = m
    · subst ei
      have ej : j ≠ i := fun e => hne e.symm
      rw [Wg.upd_same] at e1
      rw [Wg.upd_ne _ _ ej] at e2
      cases e1
      rcases hat with hat | hat
      · exact h.ap i j hi hj hne _ hat e2
      · have k1 : g6 < w.heap.size := hlt j hj _ e2; omega
    · rw [Wg.upd_ne _ _ ei] at e1
      by_cases ej : j = m
      · subst ej
        rw [Wg.upd_same] at e2
        cases e2
        rcases hat with hat | hat
        · exact h.ap i j hi hj hne _ e1 hat
        · have k1 : g6 < w.heap.size := hlt i hi _ e1; omega
      · rw [Wg.upd_ne _ _ ej] at e2
        exact h.ap i j hi hj hne k e1 e2
theorem Cr.fr {S : Nat → Prop} {w w' : World} {B cg r : Nat} {cv : Nat → Value} {cl : Nat → List Int} (h : Cr w B cg r cv cl) (f : Fr S w w') (hg : ¬ S cg) (hS : ∀ i, i < r → ∀ k, (cv i).ownBlock = some k → ¬ S k) : Cr w' B cg r cv cl :=
  ⟨h.row.fr f hg, fun i hi => (h.own i hi).fr f (hS i hi), h.ap⟩
/-- All its lists lie below. -/
def Cb (cv : Nat → Value) (r s : Nat) : Prop := ∀ i, i < r → ∀ k, (cv i).ownBlock = some k → k < s
theorem Cr.below {w : World} {B cg r : Nat} {cv : Nat → Value} {cl : Nat → List Int} (h : Cr w B cg r cv cl) : Cb cv r w.heap.size := fun i hi k e => ((h.own i hi).ge k e).2
/-- What stays beside: all that lies below s, the row cg aside. -/
theorem Cr.beside {S : Nat → Prop} {w w' : World} {B cg r s dg m t : Nat} {cv dv : Nat → Value} {cl : Nat → List Int} (h : Cr w B cg r cv cl) (hb : Cb cv r s) (f : Fr S w w') (hd : Wg.Row w t dg m dv) (ht : t ≠ 3) (hne : cg ≠ dg) (hcs : cg < s) (hS : ∀ k, S k → k = dg ∨ s ≤ k) : Cr w' B cg r cv cl := by
  refine h.fr f (fun e => ?_) (fun i hi k e e2 => ?_)
  · rcases hS cg e with e | e
    · exact hne e
    · omega
  · rcases hS k e2 with e3 | e3
    · subst e3; exact iown_row_ne hd ht (h.own i hi) e
    · have := hb i hi k e; omega
theorem Cr.nils {w : World} {B g n : Nat} (h : Wg.Row w 25 g n (fun _ => .slice none 0 0)) : Cr w B g n (fun _ => .slice none 0 0) (fun _ => []) :=
  ⟨h, fun i _ => World.ownsRow_nil _ _ _ _, fun i j _ _ _ k e => by cases e⟩
theorem Cr.cell {w : World} {B cg r : Nat} {cv : Nat → Value} {cl : Nat → List Int} (h : Cr w B cg r cv cl) {i : Nat} (hi : i < r) : ∃ a c, cv i = .slice a (cl i).length c ∧ w.cell? ⟨cg, i, none⟩ = some (.slice a (cl i).length c) ∧ (w.ownsRow B 3 1 (.slice a (cl i).length c) (cl i).length ((cl i).map vI)) := by
  obtain ⟨a, c, e⟩ := own_slice (h.own i hi)
  refine ⟨a, c, e, ?_, ?_⟩
  · rw [h.row.cell hi, e]
  · have := h.own i hi
    rw [e] at this
    exact this
/-- Seen as lists that only lie there. -/
theorem Cr.lb {w : World} {B cg r s : Nat} {cv : Nat → Value} {cl : Nat → List Int} (h : Cr w B cg r cv cl) (hb : Cb cv r s) (hcs : cg < s) : LB s w (.slice (some ⟨cg, 0, none⟩) r r) ((List.range r).map cl) := by
  refine ⟨_, r, by rw [List.length_map, List.length_range], fun _ => ⟨cg, 0, rfl, hcs, fun i hi => ?_⟩⟩
  have hi' : i < r := by simpa using hi
  refine ⟨cv i, by rw [Nat.zero_add]; exact h.row.cell hi', ?_⟩
  have e : ((List.range r).map cl)[i] = cl i := by simp
  rw [e]
  obtain ⟨a, c, e2, h2⟩ := (h.own i hi').ia
  refine ⟨a, c, e2, fun hne => ?_⟩
  obtain ⟨k, o, e3, -, h3⟩ := h2 hne
  exact ⟨k, o, e3, hb i hi' k (by rw [e2, e3]; rfl), h3⟩
end Go.Proofs.YtjmbfjaahadbhaaGreatDoor
