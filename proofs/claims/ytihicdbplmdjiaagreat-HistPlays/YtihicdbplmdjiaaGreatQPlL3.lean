import Derived.Test.YtihicdbplmdjiaaGreatQPlL2
set_option linter.unusedVariables false
set_option linter.unusedSimpArgs false
namespace Go.Proofs.YtihicdbplmdjiaaGreat.Pl

/-! ### calls and their order -/
structure CallT where
  fr : Nat
  tt : Nat
  op : OpT
  rp : RepT

def madeB (A : CallT) : Bool := A.op.1 == 1 && A.rp.ok
def seesB (C : CallT) (k : Int) : Bool := if C.op.1 = 3 then C.rp.L.any (fun e => e.1 == k) else C.op.2.1 == k && ((C.op.1 == 1) != C.rp.ok)
def missB (C : CallT) (k : Int) : Bool := if C.op.1 = 3 then !seesB C k else C.op.2.1 == k && C.op.1 == 2 && !C.rp.ok
def aheadB (A B : CallT) : Bool := decide (A.tt < B.fr) || (madeB A && seesB B A.op.2.1) || (madeB B && missB A B.op.2.1)

/-- There is an order. -/
structure Lz (cs : List CallT) (os : List OpT) (rk : Nat → Nat) : Prop where
  op : ∀ (j : Nat) (C : CallT), cs[j]? = some C → os[rk j]? = some C.op
  rp : ∀ (j : Nat) (C : CallT), cs[j]? = some C → C.rp = doR (tabOf (os.take (rk j))) C.op
  inj : ∀ j j', j < cs.length → j' < cs.length → rk j = rk j' → j = j'
  sur : ∀ a, a < os.length → ∃ j, j < cs.length ∧ rk j = a
  clk : ∀ (j j' : Nat) (C C' : CallT), cs[j]? = some C → cs[j']? = some C' → C.tt < C'.fr → rk j < rk j'
  kd : ∀ (j : Nat) (C : CallT), cs[j]? = some C → C.op.1 = 1 ∨ C.op.1 = 2 ∨ C.op.1 = 3

theorem pubs_none {os : List OpT} {k : Int} : pubs os k = none ↔ ∀ (b : Nat) (o : OpT), os[b]? = some o → ¬ (o.1 = 1 ∧ o.2.1 = k) := by
  induction os with
  | nil => simp [pubs]
  | cons o os ih =>
    rw [pubs_cons]
    constructor
    · intro h b x hb
      split at h
      · cases h
      · cases b with
        | zero => simp at hb; subst hb; assumption
        | succ b => exact ih.1 h b x (by simpa using hb)
    · intro h
      rw [if_neg (h 0 o rfl)]
      exact ih.2 (fun b x hb => h (b + 1) x (by simpa using hb))
theorem pubs_some {os : List OpT} {k : Int} {v : ByteArray} (h : pubs os k = some v) : ∃ (b : Nat) (o : OpT), os[b]? = some o ∧ o.1 = 1 ∧ o.2.1 = k ∧ o.2.2 = v ∧ pubs (os.take b) k = none := by
  induction os with
  | nil => simp [pubs] at h
  | cons o os ih =>
    rw [pubs_cons] at h
    split at h
    · rename_i h1
      cases h
      exact ⟨0, o, rfl, h1.1, h1.2, rfl, by simp [pubs]⟩
    · rename_i h1
      obtain ⟨b, x, hb, q1, q2, q3, q4⟩ := ih h
      exact ⟨b + 1, x, by simpa using hb, q1, q2, q3, by rw [List.take_succ_cons, pubs_cons, if_neg h1]; exact q4⟩
theorem get_take {α : Type} {l : List α} {a b : Nat} {x : α} (h : (l.take a)[b]? = some x) : b < a ∧ l[b]? = some x := by
  rw [List.getElem?_take] at h
  split at h
  · exact ⟨by assumption, h⟩
  · cases h

section
variable {cs : List CallT} {os : List OpT} {rk : Nat → Nat}

/-- What the table had of a key when the call took effect. -/
def had (os : List OpT) (rk : Nat → Nat) (j : Nat) (k : Int) : Option ByteArray := pubs (os.take (rk j)) k

theorem Lz.made (h : Lz cs os rk) {j : Nat} {C : CallT} (hC : cs[j]? = some C) : madeB C = true ↔ C.op.1 = 1 ∧ had os rk j C.op.2.1 = none := by
  unfold madeB
  rw [h.rp j C hC]
  unfold doR had
  by_cases h1 : C.op.1 = 1
  · rw [if_pos h1]
    simp only [h1, beq_self_eq_true, Bool.true_and, true_and, look_tabOf]
    cases pubs (os.take (rk j)) C.op.2.1 <;> simp
  · simp [h1]
theorem any_look {t : List Kv} {k : Int} : t.any (fun e => e.1 == k) = (look t k).isSome := by
  induction t with
  | nil => rfl
  | cons e r ih =>
    rw [List.any_cons, ih, look_cons]
    by_cases h : e.1 = k
    · simp [h]
    · have : (e.1 == k) = false := by simp [h]
      rw [this, if_neg h]; simp
theorem Lz.sees (h : Lz cs os rk) {j : Nat} {C : CallT} (hC : cs[j]? = some C) (k : Int) : seesB C k = true ↔ (C.op.1 = 3 ∨ C.op.2.1 = k) ∧ (had os rk j k).isSome = true := by
  unfold seesB
  rw [h.rp j C hC]
  unfold doR had
  rcases h.kd j C hC with h1 | h1 | h1
  · rw [if_neg (by omega), if_pos h1]
    simp only [h1, look_tabOf]
    by_cases hk : C.op.2.1 = k
    · subst hk
      cases pubs (os.take (rk j)) C.op.2.1 <;> simp
    · simp [hk]
  · rw [if_neg (by omega), if_neg (by omega), if_pos h1]
    simp only [h1, look_tabOf]
    by_cases hk : C.op.2.1 = k
    · subst hk
      cases pubs (os.take (rk j)) C.op.2.1 <;> simp
    · simp [hk]
  · rw [if_pos h1, if_neg (by omega), if_neg (by omega)]
    simp only [any_look, look_tabOf, h1, true_or, true_and]
theorem Lz.miss (h : Lz cs os rk) {j : Nat} {C : CallT} (hC : cs[j]? = some C) (k : Int) : missB C k = true ↔ (C.op.1 = 3 ∨ (C.op.1 = 2 ∧ C.op.2.1 = k)) ∧ had os rk j k = none := by
  unfold missB
  rcases h.kd j C hC with h1 | h1 | h1
  · rw [if_neg (by omega)]
    simp [h1]
  · rw [if_neg (by omega), h.rp j C hC]
    unfold doR had
    rw [if_neg (by omega), if_pos h1]
    simp only [h1, look_tabOf]
    by_cases hk : C.op.2.1 = k
    · subst hk
      cases pubs (os.take (rk j)) C.op.2.1 <;> simp
    · simp [hk]
  · rw [if_pos h1]
    have := h.sees hC k
    cases hs : seesB C k with
    | true =>
      have := (this.1 hs).2
      simp only [Bool.not_true, Bool.false_eq_true, false_iff]
      intro h2
      rw [h2.2] at this; cases this
    | false =>
      simp only [Bool.not_false, true_iff]
      refine ⟨Or.inl h1, ?_⟩
      cases hh : had os rk j k with
      | none => rfl
      | some v =>
        have := this.2 ⟨Or.inl h1, by rw [hh]; rfl⟩
        rw [hs] at this; cases this
theorem Lz.maker (h : Lz cs os rk) {a : Nat} {k : Int} {v : ByteArray} (hp : pubs (os.take a) k = some v) : ∃ (j : Nat) (C : CallT), cs[j]? = some C ∧ madeB C = true ∧ C.op.2.1 = k ∧ C.op.2.2 = v ∧ rk j < a := by
  obtain ⟨b, o, hb, q1, q2, q3, q4⟩ := pubs_some hp
  obtain ⟨hba, hob⟩ := get_take hb
  obtain ⟨j, hj, rfl⟩ := h.sur b (List.getElem?_eq_some_iff.1 hob).1
  have hC : cs[j]? = some cs[j] := List.getElem?_eq_getElem hj
  have ho : o = cs[j].op := by
    have := h.op j _ hC
    rw [hob] at this
    exact Option.some.inj this
  subst ho
  rw [List.take_take, Nat.min_eq_left (by omega)] at q4
  exact ⟨j, _, hC, (h.made hC).2 ⟨q1, by rw [q2]; exact q4⟩, q2, q3, hba⟩
/-- What was made earlier is there. -/
theorem Lz.later (h : Lz cs os rk) {j j' : Nat} {C : CallT} (hC : cs[j]? = some C) (hm : C.op.1 = 1) (hlt : rk j < rk j') : had os rk j' C.op.2.1 ≠ none := by
  intro hn
  unfold had at hn
  have := pubs_none.1 hn (rk j) C.op (by rw [List.getElem?_take, if_pos hlt]; exact h.op j C hC)
  exact this ⟨hm, rfl⟩
theorem Lz.one (h : Lz cs os rk) {j j' : Nat} {C C' : CallT} (hC : cs[j]? = some C) (hC' : cs[j']? = some C') (hm : madeB C = true) (hm' : madeB C' = true) (hk : C.op.2.1 = C'.op.2.1) : j = j' := by
  have h1 := (h.made hC).1 hm
  have h2 := (h.made hC').1 hm'
  have l1 := (List.getElem?_eq_some_iff.1 hC).1
  have l2 := (List.getElem?_eq_some_iff.1 hC').1
  rcases Nat.lt_trichotomy (rk j) (rk j') with hlt | heq | hgt
  · exact absurd (by rw [hk]; exact h2.2) (h.later hC h1.1 hlt)
  · exact h.inj j j' l1 l2 heq
  · exact absurd (by rw [← hk]; exact h1.2) (h.later hC' h2.1 hgt)

theorem Lz.ahead (h : Lz cs os rk) {j j' : Nat} {A B : CallT} (hA : cs[j]? = some A) (hB : cs[j']? = some B) (hne : j ≠ j') (hab : aheadB A B = true) : rk j < rk j' := by
  have l1 := (List.getElem?_eq_some_iff.1 hA).1
  have l2 := (List.getElem?_eq_some_iff.1 hB).1
  unfold aheadB at hab
  simp only [Bool.or_eq_true, Bool.and_eq_true, decide_eq_true_eq] at hab
  rcases hab with (hab | ⟨hm, hs⟩) | ⟨hm, hs⟩
  · exact h.clk j j' A B hA hB hab
  · obtain ⟨-, hs2⟩ := (h.sees hB _).1 hs
    obtain ⟨v, hv⟩ := Option.isSome_iff_exists.1 hs2
    obtain ⟨d, D, hD, hmD, hkD, -, hlt⟩ := h.maker hv
    have := h.one hA hD hm hmD hkD.symm
    subst this
    exact hlt
  · obtain ⟨-, hs2⟩ := (h.miss hA _).1 hs
    have h1 := (h.made hB).1 hm
    rcases Nat.lt_trichotomy (rk j) (rk j') with hlt | heq | hgt
    · exact hlt
    · exact absurd (h.inj j j' l1 l2 heq) hne
    · exact absurd hs2 (h.later hB h1.1 hgt)

/-- Some calls have been played, nothing that must come ahead of one of them is left. -/
structure Ply (cs : List CallT) (D : Nat → Bool) (tab : List Kv) : Prop where
  closed : ∀ (d k : Nat) (A B : CallT), D d = true → cs[k]? = some A → cs[d]? = some B → k ≠ d → aheadB A B = true → D k = true
  lk : ∀ k v, look tab k = some v ↔ ∃ (d : Nat) (C : CallT), D d = true ∧ cs[d]? = some C ∧ madeB C = true ∧ C.op.2.1 = k ∧ C.op.2.2 = v
  rise : Rise tab
theorem Ply.start (cs : List CallT) : Ply cs (fun _ => false) [] := ⟨fun d k A B h => (by cases h), fun k v => ⟨fun h => (by cases h), fun ⟨d, C, h, _⟩ => by cases h⟩, List.Pairwise.nil⟩

theorem Ply.eqs (h : Lz cs os rk) {D : Nat → Bool} {tab : List Kv} (P : Ply cs D tab) {at' : Nat} {C : CallT} (hC : cs[at']? = some C) (hD : D at' = false) (hall : ∀ (k : Nat) (A : CallT), cs[k]? = some A → k ≠ at' → aheadB A C = true → D k = true) (k : Int) (hk : C.op.1 = 3 ∨ C.op.2.1 = k) : look tab k = had os rk at' k := by
  cases hh : had os rk at' k with
  | some v =>
    obtain ⟨d, A, hA, hmA, hkA, hvA, hlt⟩ := h.maker hh
    have hne : d ≠ at' := by intro e; subst e; exact Nat.lt_irrefl _ hlt
    have hs : seesB C A.op.2.1 = true := (h.sees hC _).2 ⟨by rw [hkA]; exact hk, by rw [hkA, hh]; rfl⟩
    have := hall d A hA hne (by unfold aheadB; simp [hmA, hs])
    exact (P.lk k v).2 ⟨d, A, this, hA, hmA, hkA, hvA⟩
  | none =>
    cases hl : look tab k with
    | none => rfl
    | some v =>
      obtain ⟨d, B, hDd, hB, hmB, hkB, -⟩ := (P.lk k v).1 hl
      have hne : at' ≠ d := by intro e; subst e; rw [hD] at hDd; cases hDd
      exfalso
      by_cases h1 : C.op.1 = 1
      · have hk' : C.op.2.1 = k := by rcases hk with e | e; omega; exact e
        have hmC : madeB C = true := (h.made hC).2 ⟨h1, by rw [hk']; exact hh⟩
        exact hne (h.one hC hB hmC hmB (by rw [hk', hkB]))
      · have hmi : missB C B.op.2.1 = true := (h.miss hC _).2 ⟨by
          rcases h.kd at' C hC with e | e | e
          · exact absurd e h1
          · right; refine ⟨e, ?_⟩
            rcases hk with e2 | e2
            · omega
            · rw [e2, hkB]
          · exact Or.inl e, by rw [hkB]; exact hh⟩
        have := P.closed d at' C B hDd hC hB hne (by unfold aheadB; simp [hmB, hmi])
        rw [hD] at this; cases this
theorem Ply.answer (h : Lz cs os rk) {D : Nat → Bool} {tab : List Kv} (P : Ply cs D tab) {at' : Nat} {C : CallT} (hC : cs[at']? = some C) (hD : D at' = false) (hall : ∀ (k : Nat) (A : CallT), cs[k]? = some A → k ≠ at' → aheadB A C = true → D k = true) : doR tab C.op = C.rp := by
  rw [h.rp at' C hC]
  have hl := P.eqs h hC hD hall
  unfold had at hl
  rcases h.kd at' C hC with h1 | h1 | h1
  · unfold doR
    rw [if_pos h1, if_pos h1, hl _ (Or.inr rfl), look_tabOf]
  · have n1 : ¬ C.op.1 = 1 := by omega
    unfold doR
    rw [if_neg n1, if_neg n1, if_pos h1, if_pos h1, hl _ (Or.inr rfl), look_tabOf]
  · rw [rise_ext P.rise (rise_tabOf (os.take (rk at'))) (fun k => by rw [hl k (Or.inl h1), look_tabOf])]
theorem Ply.step (h : Lz cs os rk) {D : Nat → Bool} {tab : List Kv} (P : Ply cs D tab) {at' : Nat} {C : CallT} (hC : cs[at']? = some C) (hD : D at' = false) (hall : ∀ (k : Nat) (A : CallT), cs[k]? = some A → k ≠ at' → aheadB A C = true → D k = true) : Ply cs (fun j => D j || j == at') (doT tab C.op) := by
  refine ⟨fun d k A B hDd hA hB hne hab => ?_, fun k v => ?_, rise_doT P.rise _⟩
  · simp only [Bool.or_eq_true, beq_iff_eq] at hDd ⊢
    rcases hDd with hDd | rfl
    · exact Or.inl (P.closed d k A B hDd hA hB hne hab)
    · rw [hC] at hB
      cases hB
      exact Or.inl (hall k A hA hne hab)
  · rw [look_doT]
    have hl := P.eqs h hC hD hall C.op.2.1 (Or.inr rfl)
    by_cases hk : C.op.1 = 1 ∧ C.op.2.1 = k
    · rw [if_pos hk]
      obtain ⟨k1, rfl⟩ := hk
      cases hp : look tab C.op.2.1 with
      | some x =>
        simp only
        rw [← hp, P.lk]
        constructor
        · rintro ⟨d, A, q1, q2, q3, q4, q5⟩
          exact ⟨d, A, by simp [q1], q2, q3, q4, q5⟩
        · rintro ⟨d, A, q1, q2, q3, q4, q5⟩
          simp only [Bool.or_eq_true, beq_iff_eq] at q1
          rcases q1 with q1 | rfl
          · exact ⟨d, A, q1, q2, q3, q4, q5⟩
          · rw [hC] at q2
            cases q2
            have := ((h.made hC).1 q3).2
            rw [← hl, hp] at this; cases this
      | none =>
        simp only
        have hmC : madeB C = true := (h.made hC).2 ⟨k1, by rw [← hl]; exact hp⟩
        constructor
        · intro e
          exact ⟨at', C, by simp, hC, hmC, rfl, Option.some.inj e⟩
        · rintro ⟨d, A, q1, q2, q3, q4, q5⟩
          have := h.one q2 hC q3 hmC q4
          subst this
          rw [hC] at q2
          cases q2
          rw [q5]
    · rw [if_neg hk, P.lk]
      constructor
      · rintro ⟨d, A, q1, q2, q3, q4, q5⟩
        exact ⟨d, A, by simp [q1], q2, q3, q4, q5⟩
      · rintro ⟨d, A, q1, q2, q3, q4, q5⟩
        simp only [Bool.or_eq_true, beq_iff_eq] at q1
        rcases q1 with q1 | rfl
        · exact ⟨d, A, q1, q2, q3, q4, q5⟩
        · rw [hC] at q2
          cases q2
          exact absurd ⟨((h.made hC).1 q3).1, q4⟩ hk

/-- Some call is left that nothing that is left must come ahead of. -/
theorem Lz.free (h : Lz cs os rk) (D : Nat → Bool) : ∀ (n j : Nat), rk j = n → j < cs.length → D j = false → ∃ i, i < cs.length ∧ D i = false ∧ ∀ (k : Nat) (A B : CallT), cs[k]? = some A → cs[i]? = some B → k ≠ i → aheadB A B = true → D k = true := by
  intro n
  induction n using Nat.strongRecOn with
  | _ n ih =>
    intro j hn hj hD
    by_cases hex : ∃ (k : Nat) (A B : CallT), cs[k]? = some A ∧ cs[j]? = some B ∧ k ≠ j ∧ aheadB A B = true ∧ D k = false
    · obtain ⟨k, A, B, hA, hB, hne, hab, hDk⟩ := hex
      have hlt := h.ahead hA hB hne hab
      exact ih (rk k) (by omega) k rfl (List.getElem?_eq_some_iff.1 hA).1 hDk
    · refine ⟨j, hj, hD, fun k A B hA hB hne hab => ?_⟩
      cases hk : D k with
      | true => rfl
      | false => exact absurd ⟨k, A, B, hA, hB, hne, hab, hk⟩ hex
end

/-! ### how many must come ahead -/
def cnt (p : Nat → Bool) : Nat → Nat
  | 0 => 0
  | n + 1 => cnt p n + if p n then 1 else 0
theorem cnt_zero {p : Nat → Bool} : ∀ {n : Nat}, cnt p n = 0 ↔ ∀ k, k < n → p k = false
  | 0 => by simp [cnt]
  | n + 1 => by
    have ih := cnt_zero (p := p) (n := n)
    unfold cnt
    constructor
    · intro h k hk
      cases hp : p n with
      | true => rw [hp] at h; simp at h
      | false =>
        rw [hp] at h
        rcases Nat.lt_or_ge k n with e | e
        · exact ih.1 (by simpa using h) k e
        · have : k = n := by omega
          subst this; exact hp
    · intro h
      rw [h n (by omega), ih.2 (fun k hk => h k (by omega))]; rfl
theorem cnt_le (p : Nat → Bool) : ∀ n, cnt p n ≤ n
  | 0 => Nat.le_refl _
  | n + 1 => by have := cnt_le p n; unfold cnt; split <;> omega
theorem cnt_congr {p q : Nat → Bool} : ∀ {n : Nat}, (∀ k, k < n → p k = q k) → cnt p n = cnt q n
  | 0, _ => rfl
  | n + 1, h => by unfold cnt; rw [cnt_congr (fun k hk => h k (by omega)), h n (by omega)]
theorem cnt_flip {p q : Nat → Bool} {a : Nat} (hpa : p a = true) (hqa : q a = false) : ∀ {n : Nat}, (∀ k, k < n → k ≠ a → p k = q k) → a < n → cnt p n = cnt q n + 1
  | 0, _, h => by omega
  | n + 1, h, ha => by
    unfold cnt
    by_cases e : a = n
    · subst e
      rw [hpa, hqa, cnt_congr (fun k hk => h k (by omega) (by omega))]; rfl
    · rw [cnt_flip hpa hqa (fun k hk => h k (by omega)) (by omega), h n (by omega) (by omega)]; omega

def ahP (cs : List CallT) (k i : Nat) : Bool := match cs[k]?, cs[i]? with | some A, some B => aheadB A B | _, _ => false
def waitP (cs : List CallT) (D : Nat → Bool) (i k : Nat) : Bool := !(k == i) && !D k && ahP cs k i
def waitN (cs : List CallT) (D : Nat → Bool) (i : Nat) : Int := if D i then -1 else (cnt (waitP cs D i) cs.length : Nat)

theorem waitN_zero {cs : List CallT} {D : Nat → Bool} {i : Nat} {B : CallT} (hB : cs[i]? = some B) : waitN cs D i = 0 ↔ D i = false ∧ ∀ (k : Nat) (A : CallT), cs[k]? = some A → k ≠ i → aheadB A B = true → D k = true := by
  unfold waitN
  cases hD : D i with
  | true => simp
  | false =>
    simp only [Bool.false_eq_true, if_false, true_and]
    have : ((cnt (waitP cs D i) cs.length : Nat) : Int) = 0 ↔ cnt (waitP cs D i) cs.length = 0 := by omega
    rw [this, cnt_zero]
    constructor
    · intro h k A hA hne hab
      have := h k (List.getElem?_eq_some_iff.1 hA).1
      unfold waitP ahP at this
      rw [hA, hB] at this
      have e1 : (k == i) = false := by simp [hne]
      rw [e1] at this
      simp only [hab] at this
      simpa using this
    · intro h k hk
      have hA : cs[k]? = some cs[k] := List.getElem?_eq_getElem hk
      unfold waitP ahP
      rw [hA, hB]
      by_cases hne : k = i
      · simp [hne]
      · cases hab : aheadB cs[k] B with
        | false => simp [hab]
        | true => simp [h k _ hA hne hab]
theorem waitN_step {cs : List CallT} {D : Nat → Bool} {a i : Nat} (ha : a < cs.length) (hD : D a = false) (hi : i ≠ a) : waitN cs (fun j => D j || j == a) i = if 0 < waitN cs D i ∧ ahP cs a i = true then waitN cs D i - 1 else waitN cs D i := by
  unfold waitN
  have e1 : (i == a) = false := by simp [hi]
  simp only [e1, Bool.or_false]
  cases hDi : D i with
  | true => simp
  | false =>
    simp only [Bool.false_eq_true, if_false]
    cases hah : ahP cs a i with
    | true =>
      have hpa : waitP cs D i a = true := by unfold waitP; rw [hah, hD]; simp; omega
      have hqa : waitP cs (fun j => D j || j == a) i a = false := by unfold waitP; simp
      have hpq : ∀ k, k < cs.length → k ≠ a → waitP cs D i k = waitP cs (fun j => D j || j == a) i k := fun k _ hk => by
        have e2 : (k == a) = false := by simp [hk]
        unfold waitP
        simp only [e2, Bool.or_false]
      have := cnt_flip hpa hqa hpq ha
      rw [if_pos ⟨by omega, rfl⟩]
      omega
    | false =>
      rw [if_neg (fun h => by cases h.2)]
      congr 1
      refine cnt_congr (fun k _ => ?_)
      unfold waitP
      by_cases hk : k = a
      · subst hk; rw [hah]; simp
      · have : (k == a) = false := by simp [hk]
        simp only [this, Bool.or_false]

theorem nd_inj {l : List Nat} (h : l.Nodup) {a b : Nat} {ha : a < l.length} {hb : b < l.length} (e : l[a] = l[b]) : a = b := by
  rcases Nat.lt_trichotomy a b with h1 | h1 | h1
  · exact absurd e ((List.pairwise_iff_getElem.1 h) a b ha hb h1)
  · exact h1
  · exact absurd e.symm ((List.pairwise_iff_getElem.1 h) b a hb ha h1)
/-- The calls that a history tells. -/
def CallIs (ms : List MomT) (i : Nat) (C : CallT) : Prop := ∃ m m', ms[i]? = some m ∧ Ends ms i C.tt ∧ ms[C.tt]? = some m' ∧ C.fr = i ∧ C.op = m.op ∧ C.rp = m'.rp
theorem Ends.uniq {ms : List MomT} {i k k' : Nat} (h : Ends ms i k) (h' : Ends ms i k') : k = k' := by
  have hi : ms[i]? = some (ms[i]'(by have := h.lt; have := h.hk; omega)) := List.getElem?_eq_getElem _
  have hk : ms[k]? = some (ms[k]'h.hk) := List.getElem?_eq_getElem _
  have hk' : ms[k']? = some (ms[k']'h'.hk) := List.getElem?_eq_getElem _
  rcases Nat.lt_trichotomy k k' with e | e | e
  · exact absurd (h.same _ _ hi hk).1 (h'.none k _ _ h.lt e hi hk)
  · exact e
  · exact absurd (h'.same _ _ hi hk').1 (h.none k' _ _ h'.lt e hi hk')
theorem begsTo_mem {ms : List MomT} {i : Nat} : i ∈ (List.range ms.length).filter (fun j => match ms[j]? with | some m => m.beg | none => false) ↔ ∃ m, ms[i]? = some m ∧ m.beg = true := by
  rw [List.mem_filter, List.mem_range]
  constructor
  · rintro ⟨h1, h2⟩
    have : ms[i]? = some ms[i] := List.getElem?_eq_getElem h1
    rw [this] at h2
    exact ⟨_, this, h2⟩
  · rintro ⟨m, h1, h2⟩
    exact ⟨get_lt h1, by rw [h1]; exact h2⟩
theorem pw_get {α : Type} {R : α → α → Prop} {l : List α} (h : l.Pairwise R) {a b : Nat} {x y : α} (hab : a < b) (ha : l[a]? = some x) (hb : l[b]? = some y) : R x y := by
  obtain ⟨h1, rfl⟩ := List.getElem?_eq_some_iff.1 ha
  obtain ⟨h2, rfl⟩ := List.getElem?_eq_some_iff.1 hb
  exact (List.pairwise_iff_getElem.1 h) a b h1 h2 hab

/-- The calls of a history that is over have an order. -/
theorem lin_lz {cl : List (List OpT)} {s : St} {acs : List ActT} (h : Lin cl s acs) (hab : able s = []) {begs : List Nat} (hb : ∀ i, i ∈ begs ↔ ∃ m, s.ms[i]? = some m ∧ m.beg = true) (hnd : begs.Nodup) {cs : List CallT} (hlen : cs.length = begs.length) (hcs : ∀ (j i : Nat) (C : CallT), begs[j]? = some i → cs[j]? = some C → CallIs s.ms i C) (hkd : ∀ A ∈ acs, A.op.1 = 1 ∨ A.op.1 = 2 ∨ A.op.1 = 3) : ∃ rk, Lz cs (acs.map ActT.op) rk := by
  obtain ⟨hf, hg⟩ := h.over hab
  have hrk : ∀ j : Nat, ∃ a : Nat, ∀ i, begs[j]? = some i → ∃ A k, acs[a]? = some A ∧ A.i = i ∧ Own2 s.ms i k A := fun j => by
    cases hj : begs[j]? with
    | none => exact ⟨0, fun i h => by cases h⟩
    | some i =>
      obtain ⟨m, hm, hmb⟩ := (hb i).1 (List.mem_of_getElem? hj)
      obtain ⟨A, hA, hAi⟩ := hg i m hm hmb
      obtain ⟨k, ho⟩ := hf A hA
      obtain ⟨a, ha, rfl⟩ := List.getElem_of_mem hA
      exact ⟨a, fun i' hi' => by cases hi'; exact ⟨_, k, List.getElem?_eq_getElem ha, hAi, by rw [← hAi]; exact ho⟩⟩
  obtain ⟨rk, hrk⟩ := Classical.axiomOfChoice hrk
  have at' : ∀ (j : Nat) (C : CallT), cs[j]? = some C → ∃ i A, begs[j]? = some i ∧ CallIs s.ms i C ∧ acs[rk j]? = some A ∧ A.i = i ∧ C.op = A.op ∧ C.rp = A.rp ∧ C.fr < A.t ∧ A.t ≤ C.tt := fun j C hC => by
    have hj : j < begs.length := by rw [← hlen]; exact (List.getElem?_eq_some_iff.1 hC).1
    have hi : begs[j]? = some begs[j] := List.getElem?_eq_getElem hj
    have hc := hcs j _ C hi hC
    obtain ⟨A, k, hA, hAi, ho⟩ := hrk j _ hi
    obtain ⟨m, m2, a1, a2, a3, a4, a5, a6, a7, a8, a9⟩ := ho
    have hc' := hc
    obtain ⟨n, n2, b1, b2, b3, b4, b5, b6⟩ := hc
    have e := a6.uniq b2
    subst e
    rw [a1] at b1
    cases b1
    rw [a7] at b3
    cases b3
    exact ⟨_, A, hi, hc', hA, hAi, by rw [b5, a4], by rw [b6, a8], by rw [b4]; exact a5, a9⟩
  refine ⟨rk, ?_, ?_, ?_, ?_, ?_, ?_⟩
  · intro j C hC
    obtain ⟨i, A, -, -, hA, -, e1, -⟩ := at' j C hC
    rw [List.getElem?_map, hA, e1]; rfl
  · intro j C hC
    obtain ⟨i, A, -, -, hA, -, e1, e2, -⟩ := at' j C hC
    rw [e2, h.legal _ A hA, e1, List.map_take]
  · intro j j' hj hj' he
    obtain ⟨i, A, hi, -, hA, ho, -⟩ := at' j _ (List.getElem?_eq_getElem hj)
    obtain ⟨i', A', hi', -, hA', ho', -⟩ := at' j' _ (List.getElem?_eq_getElem hj')
    rw [he, hA'] at hA
    cases hA
    have e : i = i' := ho.symm.trans ho'
    subst e
    have h1 := List.getElem?_eq_some_iff.1 hi
    have h2 := List.getElem?_eq_some_iff.1 hi'
    exact nd_inj hnd (h1.2.trans h2.2.symm)
  · intro a ha
    have ha' : a < acs.length := by simpa using ha
    obtain ⟨k, m, m2, a1, a2, -⟩ := hf acs[a] (List.getElem_mem ha')
    obtain ⟨j, hj, hji⟩ := List.getElem_of_mem ((hb _).2 ⟨m, a1, a2⟩)
    have hj' : j < cs.length := by rw [hlen]; exact hj
    refine ⟨j, hj', ?_⟩
    obtain ⟨i', A', hi', -, hA', ho', -⟩ := at' j _ (List.getElem?_eq_getElem hj')
    have ei : i' = acs[a].i := by
      have := List.getElem?_eq_getElem hj
      rw [hi', hji] at this
      exact Option.some.inj this
    obtain ⟨q1, q2⟩ := List.getElem?_eq_some_iff.1 hA'
    have q3 : (acs.map ActT.i)[rk j]'(by simpa using q1) = (acs.map ActT.i)[a]'(by simpa using ha') := by simp [q2, ho', ei]
    exact nd_inj h.nd q3
  · intro j j' C C' hC hC' hlt
    obtain ⟨i, A, hi, hci, hA, ho, -, -, t1, t2⟩ := at' j C hC
    obtain ⟨i', A', hi', hci', hA', ho', -, -, t1', t2'⟩ := at' j' C' hC'
    rcases Nat.lt_trichotomy (rk j) (rk j') with e | e | e
    · exact e
    · rw [e, hA'] at hA
      cases hA
      omega
    · have := pw_get h.mono e hA' hA
      omega
  · intro j C hC
    obtain ⟨i, A, -, -, hA, -, e1, -⟩ := at' j C hC
    rw [e1]
    exact hkd A (List.mem_of_getElem? hA)
end Go.Proofs.YtihicdbplmdjiaaGreat.Pl
