import Derived.Test.YtjmbfjaahadbhaaDoorQRaJ
set_option linter.unusedVariables false
set_option linter.unusedSimpArgs false
namespace Go.Proofs.YtjmbfjaahadbhaaDoor

/-! ### who reaches whom; the search through the functions, in plain lists -/
/-- x reaches y by calls. -/
inductive Rch (cl : Nat → List Nat) : Nat → Nat → Prop
  | refl (x : Nat) : Rch cl x x
  | step {x y z : Nat} : Rch cl x y → z ∈ cl y → Rch cl x z
theorem Rch.trans {cl : Nat → List Nat} {x y z : Nat} (h : Rch cl x y) (k : Rch cl y z) : Rch cl x z := by
  induction k with
  | refl => exact h
  | step _ m ih => exact .step ih m
/-- How many were not met. -/
def unm : Nat → (Nat → Nat) → Nat
  | 0, _ => 0
  | n + 1, met => unm n met + if met n = 0 then 1 else 0
theorem unm_ge {n : Nat} {met : Nat → Nat} {g k : Nat} (h : n ≤ g) : unm n (Wg.upd met g k) = unm n met := by
  induction n with
  | zero => rfl
  | succ n ih =>
    unfold unm
    rw [ih (by omega), Wg.upd_ne _ _ (by omega)]
theorem unm_upd {n : Nat} {met : Nat → Nat} {g k : Nat} (hg : g < n) (h0 : met g = 0) (hk : k ≠ 0) : unm n (Wg.upd met g k) + 1 = unm n met := by
  induction n with
  | zero => omega
  | succ n ih =>
    unfold unm
    by_cases e : g = n
    · subst e
      rw [unm_ge (Nat.le_refl _), Wg.upd_same, if_neg hk, if_pos h0]
    · rw [Wg.upd_ne _ _ (fun e2 => e e2.symm)]
      have := ih (by omega)
      omega
theorem unm_zero (n : Nat) : unm n (fun _ => 0) = n := by
  induction n with
  | zero => rfl
  | succ n ih => unfold unm; rw [ih]; simp
/-- What holds of the search between two steps. -/
structure TI (N : Nat) (cl : Nat → List Nat) (of : Nat → Int) (met low nxt : Nat → Nat) (path opn : List Nat) (count steps : Nat) : Prop where
  st : steps + unm N met = N
  mN : ∀ x, met x ≠ 0 → x < N
  ms : ∀ x, met x ≤ steps
  mi : ∀ x y, met x ≠ 0 → met x = met y → x = y
  nz : ∀ x, met x = 0 → nxt x = 0
  om : ∀ x, x ∈ opn ↔ met x ≠ 0 ∧ of x < 0
  os : opn.Pairwise (fun x y => met x < met y)
  po : ∀ p ∈ path, p ∈ opn
  ps : path.Pairwise (fun x y => met x < met y)
  cm : ∀ x, 0 ≤ of x → met x ≠ 0 ∧ of x < count
  cs : ∀ k : Nat, k < count → ∃ x, of x = k
  nl : ∀ x, nxt x ≤ (cl x).length
  pr : ∀ x i z, i < nxt x → (cl x)[i]? = some z → met z ≠ 0 ∧ (x ∈ opn → z ∈ opn → low x ≤ met z)
  cc : ∀ x, 0 ≤ of x → ∀ z ∈ cl x, 0 ≤ of z ∧ of z ≤ of x
  cr : ∀ x y, 0 ≤ of x → of x = of y → Rch cl x y
  fi : ∀ x ∈ opn, x ∉ path → nxt x = (cl x).length ∧ low x < met x
  lo : ∀ x ∈ opn, low x ≤ met x ∧ ∃ y ∈ opn, met y = low x ∧ Rch cl x y
  pc : ∀ i p q, path[i]? = some p → path[i + 1]? = some q → (cl p)[nxt p]? = some q
  p2 : ∀ p ∈ path, ∀ x ∈ opn, met p ≤ met x → Rch cl p x
  lp : ∀ p ∈ path, ∀ x ∈ opn, x ∉ path → met p < met x → (∀ q ∈ path, met q ≤ met p ∨ met x ≤ met q) → low p ≤ low x ∨ ∃ c, (cl p)[nxt p]? = some c ∧ c ∈ opn ∧ low c ≤ low x
section
variable {N : Nat} {cl : Nat → List Nat} {of : Nat → Int} {met low nxt : Nat → Nat} {path opn r : List Nat} {count steps f g : Nat}
/-- The beginning. -/
theorem TI.begin (N : Nat) (cl : Nat → List Nat) : TI N cl (fun _ => -1) (fun _ => 0) (fun _ => 0) (fun _ => 0) [] [] 0 0 where
  st := by rw [unm_zero]; omega
  mN := fun x h => absurd rfl h
  ms := fun x => Nat.le_refl _
  mi := fun x y h => absurd rfl h
  nz := fun _ _ => rfl
  om := fun x => by simp
  os := .nil
  po := by simp
  ps := .nil
  cm := fun x h => by omega
  cs := fun k h => by omega
  nl := fun x => Nat.zero_le _
  pr := fun x i z h => by omega
  cc := fun x h => by omega
  cr := fun x y h => by omega
  fi := by simp
  lo := by simp
  pc := by simp
  p2 := by simp
  lp := by simp
theorem TI.neg (h : TI N cl of met low nxt path opn count steps) {x : Nat} (hx : met x = 0) : of x < 0 := by
  have := h.cm x
  by_cases e : 0 ≤ of x
  · exact absurd hx (this e).1
  · omega
theorem TI.lt (h : TI N cl of met low nxt path opn count steps) (hg : g < N) (h0 : met g = 0) : steps < N := by
  have := h.st
  have := unm_upd (n := N) (k := 1) hg h0 (by omega)
  omega
/-- A function is met. -/
theorem TI.enter (h : TI N cl of met low nxt path opn count steps) (hg : g < N) (h0 : met g = 0) (hp : ∀ i p, path[i]? = some p → path.length = i + 1 → (cl p)[nxt p]? = some g) :
    TI N cl of (Wg.upd met g (steps + 1)) (Wg.upd low g (steps + 1)) nxt (path ++ [g]) (opn ++ [g]) count (steps + 1) := by
  have hgo : g ∉ opn := fun e => ((h.om g).1 e).1 h0
  have hgp : g ∉ path := fun e => hgo (h.po g e)
  have m1 : ∀ x, x ≠ g → Wg.upd met g (steps + 1) x = met x := fun x e => Wg.upd_ne _ _ e
  have l1 : ∀ x, x ≠ g → Wg.upd low g (steps + 1) x = low x := fun x e => Wg.upd_ne _ _ e
  have mg : Wg.upd met g (steps + 1) g = steps + 1 := Wg.upd_same _ _ _
  have lg : Wg.upd low g (steps + 1) g = steps + 1 := Wg.upd_same _ _ _
  have one : ∀ x ∈ opn, x ≠ g := fun x hx e => hgo (e ▸ hx)
  have pne : ∀ x ∈ path, x ≠ g := fun x hx e => hgp (e ▸ hx)
  refine ⟨?_, ?_, ?_, ?_, ?_, ?_, ?_, ?_, ?_, ?_, h.cs, h.nl, ?_, h.cc, h.cr, ?_, ?_, ?_, ?_, ?_⟩
  · have := h.st
    have := unm_upd (n := N) (k := steps + 1) hg h0 (by omega)
    omega
  · intro x hx
    by_cases e : x = g
    · rw [e]; exact hg
    · rw [m1 x e] at hx; exact h.mN x hx
  · intro x
    by_cases e : x = g
    · rw [e, mg]; exact Nat.le_refl _
    · rw [m1 x e]; have := h.ms x; omega
  · intro x y hx e
    by_cases e1 : x = g
    · by_cases e2 : y = g
      · rw [e1, e2]
      · rw [e1, mg, m1 y e2] at e
        have := h.ms y; omega
    · rw [m1 x e1] at hx e
      by_cases e2 : y = g
      · rw [e2, mg] at e
        have := h.ms x; omega
      · rw [m1 y e2] at e
        exact h.mi x y hx e
  · intro x hx
    by_cases e : x = g
    · rw [e]; exact h.nz g h0
    · rw [m1 x e] at hx; exact h.nz x hx
  · intro x
    by_cases e : x = g
    · subst e
      rw [mg]
      simp [h.neg h0]
    · rw [m1 x e, ← h.om x]
      simp [e]
  · rw [List.pairwise_append]
    refine ⟨h.os.imp_of_mem (fun {a b} ha hb k => by rw [m1 a (one a ha), m1 b (one b hb)]; exact k), by simp, ?_⟩
    intro a ha b hb
    rw [List.mem_singleton] at hb
    rw [hb, mg, m1 a (one a ha)]
    have := h.ms a; omega
  · intro p hp2
    rw [List.mem_append, List.mem_singleton] at hp2 ⊢
    rcases hp2 with e | e
    · exact Or.inl (h.po p e)
    · exact Or.inr e
  · rw [List.pairwise_append]
    refine ⟨h.ps.imp_of_mem (fun {a b} ha hb k => by rw [m1 a (pne a ha), m1 b (pne b hb)]; exact k), by simp, ?_⟩
    intro a ha b hb
    rw [List.mem_singleton] at hb
    rw [hb, mg, m1 a (pne a ha)]
    have := h.ms a; omega
  · intro x hx
    have := h.cm x hx
    have hxg : x ≠ g := fun e => this.1 (e ▸ h0)
    rw [m1 x hxg]; exact this
  · intro x i z hi hz
    have hxg : x ≠ g := fun e => by rw [e, h.nz g h0] at hi; omega
    obtain ⟨k1, k2⟩ := h.pr x i z hi hz
    have hzg : z ≠ g := fun e => k1 (e ▸ h0)
    rw [m1 z hzg, l1 x hxg]
    refine ⟨k1, fun a b => k2 ?_ ?_⟩
    · simpa [hxg] using a
    · simpa [hzg] using b
  · intro x hx hxp
    rw [List.mem_append, List.mem_singleton] at hx hxp
    have hxg : x ≠ g := fun e => hxp (Or.inr e)
    rw [m1 x hxg, l1 x hxg]
    exact h.fi x (hx.resolve_right hxg) (fun e => hxp (Or.inl e))
  · intro x hx
    rw [List.mem_append, List.mem_singleton] at hx
    by_cases e : x = g
    · subst e
      rw [mg, lg]
      exact ⟨Nat.le_refl _, x, by simp, mg, .refl x⟩
    · rw [m1 x e, l1 x e]
      obtain ⟨k1, y, k2, k3, k4⟩ := h.lo x (hx.resolve_right e)
      exact ⟨k1, y, by simp [k2], by rw [m1 y (one y k2)]; exact k3, k4⟩
  · intro i p q h1 h2
    rw [List.getElem?_append] at h1 h2
    by_cases e : i + 1 < path.length
    · rw [if_pos (by omega)] at h1
      rw [if_pos e] at h2
      exact h.pc i p q h1 h2
    · rw [if_neg e] at h2
      by_cases e2 : i < path.length
      · rw [if_pos e2] at h1
        rw [show i + 1 - path.length = 0 by omega] at h2
        simp at h2
        rw [← h2]
        exact hp i p h1 (by omega)
      · have : 1 ≤ i + 1 - path.length := by omega
        rw [List.getElem?_eq_none (by simpa using this)] at h2
        cases h2
  · intro p hp2 x hx hle
    rw [List.mem_append, List.mem_singleton] at hp2 hx
    by_cases e : x = g
    · subst e
      by_cases e2 : p = x
      · rw [e2]; exact .refl x
      · have hpp := hp2.resolve_right e2
        obtain ⟨i, hi, e3⟩ := List.getElem_of_mem hpp
        have hpos : 0 < path.length := by omega
        obtain ⟨t, ht⟩ : ∃ t, path[path.length - 1]? = some t := ⟨_, List.getElem?_eq_getElem (by omega)⟩
        have htm : t ∈ path := List.mem_of_getElem? ht
        have hpt : met p ≤ met t := by
          by_cases e4 : i = path.length - 1
          · rw [List.getElem?_eq_getElem (by omega)] at ht
            injection ht with ht
            rw [← ht, ← e3]
            simp [e4]
          · have k := (List.pairwise_iff_getElem.1 h.ps) i (path.length - 1) hi (by omega) (by omega)
            rw [List.getElem?_eq_getElem (by omega)] at ht
            injection ht with ht
            rw [e3, ht] at k
            omega
        have k1 := h.p2 p hpp t (h.po t htm) hpt
        have k2 := hp _ t ht (by omega)
        exact .step k1 (List.mem_of_getElem? k2)
    · have hxo := hx.resolve_right e
      by_cases e2 : p = g
      · rw [e2, mg, m1 x e] at hle
        have := h.ms x; omega
      · rw [m1 p e2, m1 x e] at hle
        exact h.p2 p (hp2.resolve_right e2) x hxo hle
  · intro p hp2 x hx hxp hlt hq
    rw [List.mem_append, List.mem_singleton] at hp2 hx hxp
    have hxg : x ≠ g := fun e => hxp (Or.inr e)
    have hxo := hx.resolve_right hxg
    by_cases e2 : p = g
    · rw [e2, mg, m1 x hxg] at hlt
      have := h.ms x; omega
    · have hpp := hp2.resolve_right e2
      rw [m1 p e2, m1 x hxg] at hlt
      rw [l1 p e2, l1 x hxg]
      rcases h.lp p hpp x hxo (fun e => hxp (Or.inl e)) hlt (fun q hqp => by
        have := hq q (by simp [hqp])
        rw [m1 q (pne q hqp), m1 p e2, m1 x hxg] at this
        exact this) with k | ⟨c, c1, c2, c3⟩
      · exact Or.inl k
      · exact Or.inr ⟨c, c1, by simp [c2], by rw [l1 c (one c c2)]; exact c3⟩
/-- One more call of the path's last is looked at. -/
theorem TI.along (h : TI N cl of met low nxt (r ++ [f]) opn count steps) (hg : (cl f)[nxt f]? = some g) (h0 : met g ≠ 0) :
    TI N cl of met (Wg.upd low f (if of g < 0 then min (low f) (low g) else low f)) (Wg.upd nxt f (nxt f + 1)) (r ++ [f]) opn count steps := by
  have hfp : f ∈ r ++ [f] := by simp
  have hfo := h.po f hfp
  have hfm : met f ≠ 0 := ((h.om f).1 hfo).1
  have n1 : ∀ x, x ≠ f → Wg.upd nxt f (nxt f + 1) x = nxt x := fun x e => Wg.upd_ne _ _ e
  have nf : Wg.upd nxt f (nxt f + 1) f = nxt f + 1 := Wg.upd_same _ _ _
  obtain ⟨L, hL⟩ : ∃ L, L = (if of g < 0 then min (low f) (low g) else low f) := ⟨_, rfl⟩
  rw [← hL]
  have l1 : ∀ x, x ≠ f → Wg.upd low f L x = low x := fun x e => Wg.upd_ne _ _ e
  have lf : Wg.upd low f L f = L := Wg.upd_same _ _ _
  have hLf : L ≤ low f := by rw [hL]; split <;> omega
  have hLg : g ∈ opn → L ≤ low g := fun e => by rw [hL, if_pos ((h.om g).1 e).2]; omega
  have hlt : nxt f < (cl f).length := by
    by_cases e : nxt f < (cl f).length
    · exact e
    · rw [List.getElem?_eq_none (by omega)] at hg; cases hg
  have lle : ∀ x, Wg.upd low f L x ≤ low x := fun x => by
    by_cases e : x = f
    · rw [e, lf]; exact hLf
    · rw [l1 x e]; exact Nat.le_refl _
  refine ⟨h.st, h.mN, h.ms, h.mi, ?_, h.om, h.os, h.po, h.ps, h.cm, h.cs, ?_, ?_, h.cc, h.cr, ?_, ?_, ?_, h.p2, ?_⟩
  · intro x hx
    have : x ≠ f := fun e => hfm (e ▸ hx)
    rw [n1 x this]; exact h.nz x hx
  · intro x
    by_cases e : x = f
    · rw [e, nf]; omega
    · rw [n1 x e]; exact h.nl x
  · intro x i z hi hz
    by_cases e : x = f
    · subst e
      rw [nf] at hi
      rw [lf]
      by_cases e2 : i = nxt x
      · rw [e2, hg] at hz
        injection hz with hz
        subst hz
        exact ⟨h0, fun _ k => Nat.le_trans (hLg k) (h.lo g k).1⟩
      · obtain ⟨k1, k2⟩ := h.pr x i z (by omega) hz
        exact ⟨k1, fun a b => Nat.le_trans hLf (k2 a b)⟩
    · rw [n1 x e] at hi
      rw [l1 x e]
      exact h.pr x i z hi hz
  · intro x hx hxp
    have e : x ≠ f := fun e => hxp (e ▸ hfp)
    rw [n1 x e, l1 x e]
    exact h.fi x hx hxp
  · intro x hx
    by_cases e : x = f
    · subst e
      rw [lf]
      refine ⟨Nat.le_trans hLf (h.lo x hx).1, ?_⟩
      by_cases e2 : of g < 0
      · have hgo : g ∈ opn := (h.om g).2 ⟨h0, e2⟩
        rw [hL, if_pos e2]
        by_cases e3 : low x ≤ low g
        · rw [Nat.min_eq_left e3]
          exact (h.lo x hx).2
        · rw [Nat.min_eq_right (by omega)]
          obtain ⟨y, k1, k2, k3⟩ := (h.lo g hgo).2
          exact ⟨y, k1, k2, Rch.trans (.step (.refl x) (List.mem_of_getElem? hg)) k3⟩
      · rw [hL, if_neg e2]
        exact (h.lo x hx).2
    · rw [l1 x e]
      exact h.lo x hx
  · intro i p q h1 h2
    have hpf : p ≠ f := fun e => by
      have hi : i < (r ++ [f]).length := by
        by_cases e2 : i < (r ++ [f]).length
        · exact e2
        · rw [List.getElem?_eq_none (by omega)] at h1; cases h1
      have hi2 : i + 1 < (r ++ [f]).length := by
        by_cases e2 : i + 1 < (r ++ [f]).length
        · exact e2
        · rw [List.getElem?_eq_none (by omega)] at h2; cases h2
      have k := (List.pairwise_iff_getElem.1 h.ps) i r.length hi (by simp) (by simp at hi2; omega)
      rw [List.getElem?_eq_getElem hi] at h1
      injection h1 with h1
      rw [h1, e] at k
      simp at k
    rw [n1 p hpf]
    exact h.pc i p q h1 h2
  · intro p hp x hx hxp hlt2 hq
    have hxf : x ≠ f := fun e => hxp (e ▸ hfp)
    rw [l1 x hxf]
    by_cases e : p = f
    · subst e
      rw [lf]
      rcases h.lp p hp x hx hxp hlt2 hq with k | ⟨c, c1, c2, c3⟩
      · exact Or.inl (by omega)
      · rw [hg] at c1
        injection c1 with c1
        subst c1
        exact Or.inl (by have := hLg c2; omega)
    · rw [l1 p e, n1 p e]
      rcases h.lp p hp x hx hxp hlt2 hq with k | ⟨c, c1, c2, c3⟩
      · exact Or.inl k
      · exact Or.inr ⟨c, c1, c2, Nat.le_trans (lle c) c3⟩
theorem TI.last (h : TI N cl of met low nxt (r ++ [f]) opn count steps) : ∀ q ∈ r, met q < met f := by
  have := h.ps
  rw [List.pairwise_append] at this
  exact fun q hq => this.2.2 q hq f (by simp)
/-- What is open behind the path's last, once that one has been gone through, has no lower low. -/
theorem TI.lows (h : TI N cl of met low nxt (r ++ [f]) opn count steps) (hn : nxt f = (cl f).length) {x : Nat} (hx : x ∈ opn) (hlt : met f < met x) : x ∉ r ++ [f] ∧ low f ≤ low x := by
  have hxp : x ∉ r ++ [f] := by
    intro e
    rw [List.mem_append, List.mem_singleton] at e
    rcases e with e | e
    · have := h.last x e; omega
    · subst e; omega
  refine ⟨hxp, ?_⟩
  rcases h.lp f (by simp) x hx hxp hlt (fun q hq => by
    rw [List.mem_append, List.mem_singleton] at hq
    rcases hq with e | e
    · exact Or.inl (Nat.le_of_lt (h.last q e))
    · exact Or.inl (by rw [e]; exact Nat.le_refl _)) with k | ⟨c, c1, -⟩
  · exact k
  · rw [hn, List.getElem?_eq_none (Nat.le_refl _)] at c1
    cases c1
/-- The path's last has been gone through, and reaches one that was met ahead of it. -/
theorem TI.leave (h : TI N cl of met low nxt (r ++ [f]) opn count steps) (hn : nxt f = (cl f).length) (hl : low f ≠ met f) :
    TI N cl of met low nxt r opn count steps := by
  have hfo : f ∈ opn := h.po f (by simp)
  have hfr : f ∉ r := fun e => by have := h.last f e; omega
  refine ⟨h.st, h.mN, h.ms, h.mi, h.nz, h.om, h.os, fun p hp => h.po p (by simp [hp]), ?_, h.cm, h.cs, h.nl, h.pr, h.cc, h.cr, ?_, h.lo, ?_, fun p hp => h.p2 p (by simp [hp]), ?_⟩
  · have := h.ps
    rw [List.pairwise_append] at this
    exact this.1
  · intro x hx hxr
    by_cases e : x = f
    · subst e
      have := (h.lo x hx).1
      exact ⟨hn, by omega⟩
    · exact h.fi x hx (by simp [hxr, e])
  · intro i p q h1 h2
    have i1 : i + 1 < r.length := by
      by_cases e : i + 1 < r.length
      · exact e
      · rw [List.getElem?_eq_none (by omega)] at h2; cases h2
    exact h.pc i p q (by rw [List.getElem?_append, if_pos (by omega)]; exact h1) (by rw [List.getElem?_append, if_pos i1]; exact h2)
  · intro p hp x hx hxr hlt hq
    by_cases hxf : met f ≤ met x
    · -- behind f, or f itself: p is the last of what is left
      have hlow : low f ≤ low x := by
        by_cases e : x = f
        · rw [e]; exact Nat.le_refl _
        · have hm : met f ≠ met x := fun e2 => e (h.mi f x ((h.om f).1 hfo).1 e2).symm
          exact (h.lows hn hx (by omega)).2
      obtain ⟨i, hi, ei⟩ := List.getElem_of_mem hp
      have hil : i + 1 = r.length := by
        by_cases e : i + 1 < r.length
        · exfalso
          have hps := h.ps
          rw [List.pairwise_append] at hps
          have k := (List.pairwise_iff_getElem.1 hps.1) i (i + 1) hi e (by omega)
          have k2 := hq (r[i + 1]) (List.getElem_mem e)
          have k3 := h.last (r[i + 1]) (List.getElem_mem e)
          rw [ei] at k
          omega
        · omega
      have hc := h.pc i p f (by rw [List.getElem?_append, if_pos hi, List.getElem?_eq_getElem hi, ei]) (by rw [List.getElem?_append, if_neg (by omega), hil]; simp)
      exact Or.inr ⟨f, hc, hfo, hlow⟩
    · have hxp : x ∉ r ++ [f] := by
        rw [List.mem_append, List.mem_singleton]
        rintro (e | e)
        · exact hxr e
        · subst e; omega
      exact h.lp p (by simp [hp]) x hx hxp hlt (fun q hqp => by
        rw [List.mem_append, List.mem_singleton] at hqp
        rcases hqp with e | e
        · exact hq q e
        · exact Or.inr (by rw [e]; omega))
/-- All that is open from the path's last on reaches it. -/
theorem TI.back (h : TI N cl of met low nxt (r ++ [f]) opn count steps) (hn : nxt f = (cl f).length) (hl : low f = met f) : ∀ (n x : Nat), met x = n → x ∈ opn → met f ≤ met x → Rch cl x f := by
  intro n
  induction n using Nat.strongRecOn with
  | ind n ih =>
    intro x en hx hle
    by_cases e : met f = met x
    · have hfo : f ∈ opn := h.po f (by simp)
      rw [h.mi f x ((h.om f).1 hfo).1 e]
      exact .refl x
    · obtain ⟨k1, k2⟩ := h.lows hn hx (by omega)
      obtain ⟨-, k3⟩ := h.fi x hx k1
      obtain ⟨-, y, y1, y2, y3⟩ := h.lo x hx
      exact y3.trans (ih (met y) (by omega) y rfl y1 (by omega))
/-- The path's last has been gone through, and reaches none that was met ahead of it: what is open from it on is a component. -/
theorem TI.told {a b : List Nat} (h : TI N cl of met low nxt (r ++ [f]) (a ++ f :: b) count steps) (hn : nxt f = (cl f).length) (hl : low f = met f) :
    TI N cl (fun x => if x ∈ f :: b then (count : Int) else of x) met low nxt r a (count + 1) steps := by
  have hos := h.os
  rw [List.pairwise_append] at hos
  obtain ⟨oa, ob, oab⟩ := hos
  have hfo : f ∈ a ++ f :: b := by simp
  have ha : ∀ x ∈ a, met x < met f := fun x hx => oab x hx f (by simp)
  have hb : ∀ x ∈ f :: b, met f ≤ met x := fun x hx => by
    rw [List.mem_cons] at hx
    rcases hx with e | e
    · rw [e]; exact Nat.le_refl _
    · rw [List.pairwise_cons] at ob
      exact Nat.le_of_lt (ob.1 x e)
  have hna : ∀ x ∈ a, x ∉ f :: b := fun x hx e => by have := ha x hx; have := hb x e; omega
  have side : ∀ x ∈ a ++ f :: b, met f ≤ met x → x ∈ f :: b := fun x hx hle => by
    rw [List.mem_append] at hx
    rcases hx with e | e
    · have := ha x e; omega
    · exact e
  have neg : ∀ x ∈ f :: b, met x ≠ 0 ∧ of x < 0 := fun x hx => (h.om x).1 (by rw [List.mem_append]; exact Or.inr hx)
  have clo : ∀ x, 0 ≤ of x → x ∉ f :: b := fun x hx e => by have := (neg x e).2; omega
  have ra : ∀ p ∈ r, p ∈ a := fun p hp => by
    have k := h.po p (by simp [hp])
    have k2 := h.last p hp
    rw [List.mem_append] at k
    rcases k with e | e
    · exact e
    · have := hb p e; omega
  have oneT : ∀ x ∈ f :: b, nxt x = (cl x).length ∧ met f ≤ low x := fun x hx => by
    have hxo : x ∈ a ++ f :: b := by rw [List.mem_append]; exact Or.inr hx
    by_cases e : met f = met x
    · rw [← h.mi f x (neg f (by simp)).1 e]
      exact ⟨hn, by omega⟩
    · have := hb x hx
      obtain ⟨k1, k2⟩ := h.lows hn hxo (by omega)
      exact ⟨(h.fi x hxo k1).1, by omega⟩
  refine ⟨h.st, h.mN, h.ms, h.mi, h.nz, ?_, oa, ra, ?_, ?_, ?_, h.nl, ?_, ?_, ?_, ?_, ?_, ?_, ?_, ?_⟩
  · intro x
    have k := h.om x
    rw [List.mem_append] at k
    by_cases e : x ∈ f :: b
    · simp only [if_pos e]
      constructor
      · intro hx; exact absurd e (hna x hx)
      · intro hx; omega
    · simp only [if_neg e]
      rw [← k]
      constructor
      · exact Or.inl
      · intro hx; exact hx.resolve_right e
  · have := h.ps
    rw [List.pairwise_append] at this
    exact this.1
  · intro x hx
    by_cases e : x ∈ f :: b
    · simp only [if_pos e] at hx ⊢
      exact ⟨(neg x e).1, by omega⟩
    · simp only [if_neg e] at hx ⊢
      obtain ⟨k1, k2⟩ := h.cm x hx
      exact ⟨k1, by omega⟩
  · intro k hk
    by_cases e : k = count
    · exact ⟨f, by simp [e]⟩
    · obtain ⟨x, hx⟩ := h.cs k (by omega)
      refine ⟨x, ?_⟩
      simp only [if_neg (clo x (by omega))]
      exact hx
  · intro x i z hi hz
    obtain ⟨k1, k2⟩ := h.pr x i z hi hz
    exact ⟨k1, fun c d => k2 (by simp [c]) (by simp [d])⟩
  · intro x hx z hz
    by_cases e : x ∈ f :: b
    · simp only [if_pos e]
      obtain ⟨n1, n2⟩ := oneT x e
      obtain ⟨i, hi, ei⟩ := List.getElem_of_mem hz
      obtain ⟨k1, k2⟩ := h.pr x i z (by omega) (by rw [List.getElem?_eq_getElem hi, ei])
      by_cases e2 : z ∈ f :: b
      · simp only [if_pos e2]; omega
      · simp only [if_neg e2]
        by_cases e3 : of z < 0
        · exfalso
          have hzo := (h.om z).2 ⟨k1, e3⟩
          have k3 := k2 (by rw [List.mem_append]; exact Or.inr e) hzo
          exact e2 (side z hzo (by omega))
        · have := (h.cm z (by omega)).2
          omega
    · simp only [if_neg e] at hx ⊢
      obtain ⟨k1, k2⟩ := h.cc x hx z hz
      simp only [if_neg (clo z k1)]
      exact ⟨k1, k2⟩
  · intro x y hx hxy
    by_cases e : x ∈ f :: b
    · simp only [if_pos e] at hxy
      by_cases e2 : y ∈ f :: b
      · have k1 := h.back hn hl _ x rfl (by rw [List.mem_append]; exact Or.inr e) (hb x e)
        have k2 := h.p2 f (by simp) y (by rw [List.mem_append]; exact Or.inr e2) (hb y e2)
        exact k1.trans k2
      · simp only [if_neg e2] at hxy
        have := (h.cm y (by omega)).2
        omega
    · simp only [if_neg e] at hx hxy
      by_cases e2 : y ∈ f :: b
      · simp only [if_pos e2] at hxy
        have := (h.cm x hx).2
        omega
      · simp only [if_neg e2] at hxy
        exact h.cr x y hx hxy
  · intro x hx hxr
    have e : x ≠ f := fun e => by have := ha x hx; rw [e] at this; omega
    exact h.fi x (by simp [hx]) (by simp [hxr, e])
  · intro x hx
    obtain ⟨k1, y, k2, k3, k4⟩ := h.lo x (by simp [hx])
    refine ⟨k1, y, ?_, k3, k4⟩
    rw [List.mem_append] at k2
    rcases k2 with e | e
    · exact e
    · have := hb y e; have := ha x hx; omega
  · intro i p q h1 h2
    have i1 : i + 1 < r.length := by
      by_cases e : i + 1 < r.length
      · exact e
      · rw [List.getElem?_eq_none (by omega)] at h2; cases h2
    exact h.pc i p q (by rw [List.getElem?_append, if_pos (by omega)]; exact h1) (by rw [List.getElem?_append, if_pos i1]; exact h2)
  · exact fun p hp x hx => h.p2 p (by simp [hp]) x (by simp [hx])
  · intro p hp x hx hxr hlt hq
    have hxf := ha x hx
    have e : x ≠ f := fun e => by rw [e] at hxf; omega
    have hxp : x ∉ r ++ [f] := by simp [hxr, e]
    rcases h.lp p (by simp [hp]) x (by simp [hx]) hxp hlt (fun q hqp => by
        rw [List.mem_append, List.mem_singleton] at hqp
        rcases hqp with e | e
        · exact hq q e
        · exact Or.inr (by rw [e]; omega)) with k | ⟨c, c1, c2, c3⟩
    · exact Or.inl k
    · rw [List.mem_append] at c2
      rcases c2 with e2 | e2
      · exact Or.inr ⟨c, c1, e2, c3⟩
      · have k1 := (oneT c e2).2
        have k2 := (h.fi x (by simp [hx]) hxp).2
        omega
/-- Where no path is left, none is open. -/
theorem TI.done (h : TI N cl of met low nxt [] opn count steps) : opn = [] := by
  have key : ∀ n x, met x = n → x ∈ opn → False := by
    intro n
    induction n using Nat.strongRecOn with
    | ind n ih =>
      intro x en hx
      have k := (h.fi x hx (by simp)).2
      obtain ⟨-, y, y1, y2, -⟩ := h.lo x hx
      exact ih (met y) (by omega) y rfl y1
  cases opn with
  | nil => rfl
  | cons x l => exact (key _ x rfl (by simp)).elim
/-- What the search tells in the end: its numbers are the components. -/
theorem TI.rings (h : TI N cl of met low nxt [] opn count steps) (hm : ∀ x, x < N → met x ≠ 0) (x y : Nat) (hx : x < N) (hy : y < N) :
    (0 ≤ of x ∧ of x < count) ∧ (Rch cl x y → of y ≤ of x) ∧ (of x = of y ↔ Rch cl x y ∧ Rch cl y x) := by
  have hof : ∀ x, x < N → 0 ≤ of x := fun x hx => by
    have k := h.om x
    rw [h.done] at k
    by_cases e : of x < 0
    · have := k.2 ⟨hm x hx, e⟩
      cases this
    · omega
  have down : ∀ x y, 0 ≤ of x → Rch cl x y → 0 ≤ of y ∧ of y ≤ of x := by
    intro x y hx k
    induction k with
    | refl => exact ⟨hx, Int.le_refl _⟩
    | step _ m ih =>
      obtain ⟨k1, k2⟩ := h.cc _ ih.1 _ m
      exact ⟨k1, by omega⟩
  refine ⟨⟨hof x hx, (h.cm x (hof x hx)).2⟩, fun k => (down x y (hof x hx) k).2, fun e => ⟨h.cr x y (hof x hx) e, h.cr y x (hof y hy) e.symm⟩, fun ⟨a, b⟩ => ?_⟩
  have k1 := (down x y (hof x hx) a).2
  have k2 := (down y x (hof y hy) b).2
  omega
end

/-! ### components get their numbers, in plain lists -/
theorem nodup_le {l : List Nat} {n : Nat} (h : l.Nodup) (hl : ∀ x ∈ l, x < n) : l.length ≤ n := by
  have p : l.Perm ((List.range n).filter (fun x => decide (x ∈ l))) := by
    rw [List.perm_ext_iff_of_nodup h (List.Pairwise.filter _ List.nodup_range)]
    intro a
    rw [List.mem_filter, List.mem_range]
    constructor
    · intro ha; exact ⟨hl a ha, by simp [ha]⟩
    · intro ha; simpa using ha.2
  rw [p.length_eq]
  have := List.length_filter_le (fun x => decide (x ∈ l)) (List.range n)
  rwa [List.length_range] at this
/-- The graph of the components, whose callees are lower. -/
structure NG (n : Nat) (lw : Nat → Nat) (cle clr : Nat → List Nat) : Prop where
  dn : ∀ c, c < n → ∀ d ∈ cle c, d < c
  nd : ∀ c, c < n → (cle c).Nodup
  rn : ∀ d, d < n → (clr d).Nodup
  bk : ∀ c d, c < n → d < n → (c ∈ clr d ↔ d ∈ cle c)
  rl : ∀ d, d < n → ∀ c ∈ clr d, c < n
  li : ∀ c d, c < n → d < n → lw c = lw d → c = d
/-- What holds between two that get their numbers. -/
structure NI (n : Nat) (lw : Nat → Nat) (cle : Nat → List Nat) (dn : List Nat) (number : Nat → Nat) (waits : Nat → Int) (can : List Int) : Prop where
  nd : dn.Nodup
  lt : ∀ c ∈ dn, c < n
  nu : ∀ i c, dn[i]? = some c → number c = i
  wt : ∀ c, c < n → waits c = (((cle c).countP (fun d => decide (d ∉ dn)) : Nat) : Int)
  rd : ∀ v : Int, v ∈ can ↔ ∃ c, c < n ∧ v = (lw c : Int) ∧ c ∉ dn ∧ waits c = 0
  cd : ∀ i c, dn[i]? = some c → ∀ d ∈ cle c, d ∈ dn.take i
  mn : ∀ i c, dn[i]? = some c → ∀ d, d < n → d ∉ dn.take i → (∀ e ∈ cle d, e ∈ dn.take i) → lw c ≤ lw d
/-- While the callers of the last one that got its number are looked at. -/
structure NM (n : Nat) (lw : Nat → Nat) (cle clr : Nat → List Nat) (dn : List Nat) (c i : Nat) (number : Nat → Nat) (waits : Nat → Int) (can : List Int) : Prop where
  nd : (dn ++ [c]).Nodup
  lt : ∀ d ∈ dn ++ [c], d < n
  nu : ∀ i d, (dn ++ [c])[i]? = some d → number d = i
  wt : ∀ d, d < n → waits d = (((cle d).countP (fun e => decide (e ∉ dn)) : Nat) : Int) - if d ∈ (clr c).take i then 1 else 0
  rd : ∀ v : Int, v ∈ can ↔ ∃ d, d < n ∧ v = (lw d : Int) ∧ d ∉ dn ++ [c] ∧ waits d = 0
  cd : ∀ i d, (dn ++ [c])[i]? = some d → ∀ e ∈ cle d, e ∈ (dn ++ [c]).take i
  mn : ∀ i d, (dn ++ [c])[i]? = some d → ∀ e, e < n → e ∉ (dn ++ [c]).take i → (∀ x ∈ cle e, x ∈ (dn ++ [c]).take i) → lw d ≤ lw e
section
variable {n : Nat} {lw : Nat → Nat} {cle clr : Nat → List Nat} {dn : List Nat} {number : Nat → Nat} {waits : Nat → Int} {can can' : List Int} {c i : Nat}
theorem wt_zero {l dn : List Nat} : l.countP (fun d => decide (d ∉ dn)) = 0 ↔ ∀ d ∈ l, d ∈ dn := by
  rw [List.countP_eq_zero]
  constructor
  · intro h d hd
    have := h d hd
    simpa using this
  · intro h d hd
    simpa using h d hd
theorem snoc_at {l : List Nat} {x y i : Nat} (h : (l ++ [x])[i]? = some y) : (l[i]? = some y ∧ i < l.length) ∨ (y = x ∧ i = l.length) := by
  rw [List.getElem?_append] at h
  split at h
  · rename_i k; exact Or.inl ⟨h, k⟩
  · rename_i k
    have e : i - l.length = 0 := by
      by_cases e : i - l.length = 0
      · exact e
      · rw [List.getElem?_eq_none (by simp; omega)] at h; cases h
    rw [e] at h
    simp at h
    exact Or.inr ⟨h.symm, by omega⟩
/-- The least that can be numbered gets its number. -/
theorem NI.pop (h : NI n lw cle dn number waits can) (hc : c < n) (hcd : c ∉ dn) (hw : waits c = 0) (hmin : ∀ u ∈ can, (lw c : Int) ≤ u) (hcan : ∀ x, x ∈ can' ↔ x ∈ can ∧ x ≠ (lw c : Int)) (hg : NG n lw cle clr) :
    NM n lw cle clr dn c 0 (Wg.upd number c dn.length) waits can' := by
  have hcl : ∀ d ∈ cle c, d ∈ dn := wt_zero.1 (by have := h.wt c hc; omega)
  refine ⟨?_, ?_, ?_, ?_, ?_, ?_, ?_⟩
  · rw [List.nodup_append]
    refine ⟨h.nd, by simp, fun a ha b hb e => ?_⟩
    rw [List.mem_singleton] at hb
    exact hcd (by rw [← hb, ← e]; exact ha)
  · intro d hd
    rw [List.mem_append, List.mem_singleton] at hd
    rcases hd with e | e
    · exact h.lt d e
    · rw [e]; exact hc
  · intro i d e
    rcases snoc_at e with ⟨e1, e2⟩ | ⟨e1, e2⟩
    · have : d ≠ c := fun x => hcd (by rw [← x]; exact List.mem_of_getElem? e1)
      rw [Wg.upd_ne _ _ this]
      exact h.nu i d e1
    · rw [e1, e2, Wg.upd_same]
  · intro d hd
    rw [h.wt d hd]
    simp
  · intro v
    rw [hcan, h.rd]
    constructor
    · rintro ⟨⟨d, d1, d2, d3, d4⟩, hne⟩
      refine ⟨d, d1, d2, ?_, d4⟩
      rw [List.mem_append, List.mem_singleton]
      rintro (e | e)
      · exact d3 e
      · exact hne (by rw [d2, e])
    · rintro ⟨d, d1, d2, d3, d4⟩
      rw [List.mem_append, List.mem_singleton] at d3
      refine ⟨⟨d, d1, d2, fun e => d3 (Or.inl e), d4⟩, fun e => d3 (Or.inr ?_)⟩
      exact hg.li d c d1 hc (by omega)
  · intro i d e x hx
    rcases snoc_at e with ⟨e1, e2⟩ | ⟨e1, e2⟩
    · rw [List.take_append_of_le_length (by omega)]
      exact h.cd i d e1 x hx
    · rw [e2, List.take_append_of_le_length (Nat.le_refl _), List.take_length]
      exact hcl x (by rw [← e1]; exact hx)
  · intro i d e x hx hxn hxc
    rcases snoc_at e with ⟨e1, e2⟩ | ⟨e1, e2⟩
    · rw [List.take_append_of_le_length (by omega)] at hxn hxc
      exact h.mn i d e1 x hx hxn hxc
    · rw [e2, List.take_append_of_le_length (Nat.le_refl _), List.take_length] at hxn hxc
      have k : (lw x : Int) ∈ can := (h.rd _).2 ⟨x, hx, rfl, hxn, by rw [h.wt x hx, wt_zero.2 hxc]; rfl⟩
      have := hmin _ k
      rw [e1]
      omega
theorem NM.caller (h : NM n lw cle clr dn c i number waits can) (hg : NG n lw cle clr) {d : Nat} (hd : (clr c)[i]? = some d) : d < n ∧ d ∉ dn ++ [c] ∧ 1 ≤ waits d ∧ (lw d : Int) ∉ can := by
  have hc : c < n := h.lt c (by simp)
  have hdm : d ∈ clr c := List.mem_of_getElem? hd
  have hdn := hg.rl c hc d hdm
  have hcd : c ∈ cle d := (hg.bk d c hdn hc).1 hdm
  have hcn : c ∉ dn := by
    have := h.nd
    rw [List.nodup_append] at this
    exact fun e => this.2.2 c e c (by simp) rfl
  have hnot : d ∉ dn ++ [c] := by
    rw [List.mem_append, List.mem_singleton]
    rintro (e | e)
    · obtain ⟨j, hj, ej⟩ := List.getElem_of_mem e
      have k := h.cd j d (by rw [List.getElem?_append, if_pos hj, List.getElem?_eq_getElem hj, ej]) c hcd
      rw [List.take_append_of_le_length (by omega)] at k
      exact hcn (List.mem_of_mem_take k)
    · have := hg.dn d hdn c hcd
      omega
  have hnt : d ∉ (clr c).take i := by
    intro e
    have hl : i < (clr c).length := by
      by_cases e2 : i < (clr c).length
      · exact e2
      · rw [List.getElem?_eq_none (by omega)] at hd; cases hd
    obtain ⟨j, hj, ej⟩ := List.getElem_of_mem e
    rw [List.getElem_take] at ej
    rw [List.length_take] at hj
    rw [List.getElem?_eq_getElem hl] at hd
    injection hd with hd
    exact (List.pairwise_iff_getElem.1 (hg.rn c hc)) j i (by omega) hl (by omega) (by rw [ej, hd])
  have hpos : 0 < (cle d).countP (fun e => decide (e ∉ dn)) := by
    rw [List.countP_pos_iff]
    exact ⟨c, hcd, by simp [hcn]⟩
  have hw := h.wt d hdn
  rw [if_neg hnt] at hw
  refine ⟨hdn, hnot, by omega, fun e => ?_⟩
  obtain ⟨x, x1, x2, x3, x4⟩ := (h.rd _).1 e
  have : d = x := hg.li d x hdn x1 (by omega)
  subst this
  omega
/-- One caller is looked at. -/
theorem NM.step (h : NM n lw cle clr dn c i number waits can) (hg : NG n lw cle clr) {d : Nat} (hd : (clr c)[i]? = some d) (hcan : ∀ x, x ∈ can' ↔ x ∈ can ∨ (x = (lw d : Int) ∧ waits d - 1 = 0)) :
    NM n lw cle clr dn c (i + 1) number (Wg.upd waits d (waits d - 1)) can' := by
  obtain ⟨k1, k2, k3, k4⟩ := h.caller hg hd
  have hc : c < n := h.lt c (by simp)
  have hl : i < (clr c).length := by
    by_cases e2 : i < (clr c).length
    · exact e2
    · rw [List.getElem?_eq_none (by omega)] at hd; cases hd
  have hnt : d ∉ (clr c).take i := by
    intro e
    obtain ⟨j, hj, ej⟩ := List.getElem_of_mem e
    rw [List.getElem_take] at ej
    rw [List.length_take] at hj
    rw [List.getElem?_eq_getElem hl] at hd
    injection hd with hd
    exact (List.pairwise_iff_getElem.1 (hg.rn c hc)) j i (by omega) hl (by omega) (by rw [ej, hd])
  have htk : (clr c).take (i + 1) = (clr c).take i ++ [d] := by rw [List.take_add_one, hd]; rfl
  refine ⟨h.nd, h.lt, h.nu, fun x hx => ?_, fun v => ?_, h.cd, h.mn⟩
  · rw [htk]
    by_cases e : x = d
    · subst e
      rw [Wg.upd_same, if_pos (by simp)]
      have := h.wt x hx
      rw [if_neg hnt] at this
      omega
    · rw [Wg.upd_ne _ _ e, h.wt x hx]
      congr 1
      simp [e]
  · rw [hcan, h.rd]
    constructor
    · rintro (⟨x, x1, x2, x3, x4⟩ | ⟨e1, e2⟩)
      · refine ⟨x, x1, x2, x3, ?_⟩
        rw [Wg.upd_ne _ _ (fun e => by subst e; omega)]
        exact x4
      · exact ⟨d, k1, e1, k2, by rw [Wg.upd_same]; exact e2⟩
    · rintro ⟨x, x1, x2, x3, x4⟩
      by_cases e : x = d
      · subst e
        rw [Wg.upd_same] at x4
        exact Or.inr ⟨x2, x4⟩
      · rw [Wg.upd_ne _ _ e] at x4
        exact Or.inl ⟨x, x1, x2, x3, x4⟩
theorem countP_less {l dn : List Nat} (h : l.Nodup) {c : Nat} (hc : c ∉ dn) : ((l.countP (fun e => decide (e ∉ dn ++ [c])) : Nat) : Int) = ((l.countP (fun e => decide (e ∉ dn)) : Nat) : Int) - if c ∈ l then 1 else 0 := by
  induction l with
  | nil => simp
  | cons x l ih =>
    rw [List.nodup_cons] at h
    have k := ih h.2
    rw [List.countP_cons, List.countP_cons]
    by_cases e : x = c
    · subst e
      have e1 : decide (x ∉ dn ++ [x]) = false := by simp
      have e2 : decide (x ∉ dn) = true := by simp [hc]
      rw [e1, e2]
      rw [if_neg h.1] at k
      simp
      simp at k
      omega
    · have e1 : decide (x ∉ dn ++ [c]) = decide (x ∉ dn) := by simp [e]
      rw [e1]
      have e2 : (c ∈ x :: l) = (c ∈ l) := by
        simp only [List.mem_cons, eq_iff_iff]
        exact ⟨fun q => q.resolve_left (fun q => e q.symm), Or.inr⟩
      simp only [e2]
      omega
theorem NM.end (h : NM n lw cle clr dn c (clr c).length number waits can) (hg : NG n lw cle clr) : NI n lw cle (dn ++ [c]) number waits can := by
  have hc : c < n := h.lt c (by simp)
  have hcn : c ∉ dn := by
    have := h.nd
    rw [List.nodup_append] at this
    exact fun e => this.2.2 c e c (by simp) rfl
  refine ⟨h.nd, h.lt, h.nu, fun d hd => ?_, h.rd, h.cd, h.mn⟩
  rw [h.wt d hd, countP_less (hg.nd d hd) hcn, List.take_length]
  congr 1
  have := hg.bk d c hd hc
  by_cases e : c ∈ cle d
  · rw [if_pos e, if_pos (this.2 e)]
  · rw [if_neg e, if_neg (fun x => e (this.1 x))]
/-- Before any has a number. -/
theorem NI.begin (hw : ∀ c, c < n → waits c = ((cle c).length : Int)) (hr : ∀ v : Int, v ∈ can ↔ ∃ c, c < n ∧ v = (lw c : Int) ∧ waits c = 0) : NI n lw cle [] number waits can := by
  refine ⟨List.nodup_nil, by simp, by simp, fun c hc => ?_, fun v => ?_, by simp, by simp⟩
  · rw [hw c hc]
    have : (cle c).countP (fun d => decide (d ∉ ([] : List Nat))) = (cle c).length := by
      rw [List.countP_eq_length]
      simp
    rw [this]
  · rw [hr]
    simp
theorem NI.all (h : NI n lw cle dn number waits []) (hg : NG n lw cle clr) : ∀ c, c < n → c ∈ dn := by
  intro c
  induction c using Nat.strongRecOn with
  | ind c ih =>
    intro hc
    by_cases e : c ∈ dn
    · exact e
    · exfalso
      have k : ∀ d ∈ cle c, d ∈ dn := fun d hd => by
        have := hg.dn c hc d hd
        exact ih d this (by omega)
      have := (h.rd (lw c : Int)).2 ⟨c, hc, rfl, e, by rw [h.wt c hc, wt_zero.2 k]; rfl⟩
      cases this
theorem NI.le (h : NI n lw cle dn number waits can) : dn.length ≤ n := nodup_le h.nd h.lt
theorem NI.less (h : NI n lw cle dn number waits can) (hc : c < n) (hcd : c ∉ dn) : dn.length < n := by
  have := nodup_le (l := dn ++ [c]) (n := n) (by
    rw [List.nodup_append]
    refine ⟨h.nd, by simp, fun a ha b hb e => ?_⟩
    rw [List.mem_singleton] at hb
    exact hcd (by rw [← hb, ← e]; exact ha)) (by
    intro x hx
    rw [List.mem_append, List.mem_singleton] at hx
    rcases hx with e | e
    · exact h.lt x e
    · rw [e]; exact hc)
  rw [List.length_append, List.length_singleton] at this
  omega
/-- What the numbers are, once all have one. -/
theorem NI.told (h : NI n lw cle dn number waits []) (hg : NG n lw cle clr) :
    (∀ c, c < n → number c < n) ∧ (∀ c d, c < n → d < n → number c = number d → c = d) ∧ (∀ k, k < n → ∃ c, c < n ∧ number c = k) ∧ (∀ c, c < n → ∀ d ∈ cle c, number d < number c) ∧ ∀ c d, c < n → d < n → number c ≤ number d → (∀ e ∈ cle d, number e < number c) → lw c ≤ lw d := by
  have all := h.all hg
  have hlen : dn.length = n := by
    have p : dn.Perm (List.range n) := by
      rw [List.perm_ext_iff_of_nodup h.nd List.nodup_range]
      intro a
      rw [List.mem_range]
      exact ⟨h.lt a, all a⟩
    rw [p.length_eq, List.length_range]
  have at_ : ∀ c, c < n → dn[number c]? = some c ∧ number c < n := fun c hc => by
    obtain ⟨i, hi, ei⟩ := List.getElem_of_mem (all c hc)
    have k := h.nu i c (by rw [List.getElem?_eq_getElem hi, ei])
    rw [k]
    exact ⟨by rw [List.getElem?_eq_getElem hi, ei], by omega⟩
  have tk : ∀ c d, d < n → d ∈ dn.take c → number d < c := fun c d hd hm => by
    obtain ⟨j, hj, ej⟩ := List.getElem_of_mem hm
    rw [List.getElem_take] at ej
    rw [List.length_take] at hj
    have := h.nu j d (by rw [List.getElem?_eq_getElem (by omega), ej])
    omega
  have tk2 : ∀ c d, d < n → number d < c → d ∈ dn.take c := fun c d hd hl => by
    rw [List.mem_take_iff_getElem]
    obtain ⟨k1, k2⟩ := at_ d hd
    rw [List.getElem?_eq_getElem (by omega)] at k1
    injection k1 with k1
    exact ⟨number d, by omega, k1⟩
  refine ⟨fun c hc => (at_ c hc).2, fun c d hc hd e => ?_, fun k hk => ?_, fun c hc d hd => ?_, fun c d hc hd hle hall => ?_⟩
  · have k1 := (at_ c hc).1
    have k2 := (at_ d hd).1
    rw [e, k2] at k1
    injection k1 with k1
    exact k1.symm
  · refine ⟨dn[k]'(by omega), h.lt _ (List.getElem_mem _), h.nu k _ (List.getElem?_eq_getElem (by omega))⟩
  · have hdn := hg.dn c hc d hd
    exact tk _ d (by omega) (h.cd _ c (at_ c hc).1 d hd)
  · refine h.mn _ c (at_ c hc).1 d hd (fun e => ?_) (fun e he => ?_)
    · have := tk _ d hd e
      omega
    · have hed := hg.dn d hd e he
      exact tk2 _ e (by omega) (hall e he)
end
end Go.Proofs.YtjmbfjaahadbhaaDoor
