import Derived.Test.YtihicdbplmdjiaaGreatQPlL1
set_option linter.unusedVariables false
set_option linter.unusedSimpArgs false
namespace Go.Proofs.YtihicdbplmdjiaaGreat.Pl

/-! ### the plain map -/
def doT (tab : List Kv) (o : OpT) : List Kv := if o.1 = 1 then (match look tab o.2.1 with | some _ => tab | none => insK tab o.2.1 o.2.2) else tab
def doR (tab : List Kv) (o : OpT) : RepT :=
  if o.1 = 1 then ⟨(look tab o.2.1).isNone, ⟨#[]⟩, []⟩
  else if o.1 = 2 then ⟨(look tab o.2.1).isSome, (look tab o.2.1).getD ⟨#[]⟩, []⟩
  else ⟨true, ⟨#[]⟩, tab⟩
def tabOf (os : List OpT) : List Kv := os.foldl doT []
def pubs (os : List OpT) (k : Int) : Option ByteArray := (os.find? (fun o => o.1 == 1 && o.2.1 == k)).map (fun o => o.2.2)
def Rise (t : List Kv) : Prop := t.Pairwise (fun a b => a.1 < b.1)

theorem look_cons (e : Kv) (r : List Kv) (k : Int) : look (e :: r) k = if e.1 = k then some e.2 else look r k := by
  unfold look
  rw [List.find?_cons]
  by_cases h : e.1 = k
  · simp [h]
  · have : (e.1 == k) = false := by simp [h]
    rw [this, if_neg h]
theorem look_ins (t : List Kv) (k : Int) (v : ByteArray) (k' : Int) : look (insK t k v) k' = if k = k' then some v else look t k' := by
  induction t with
  | nil => unfold insK; rw [look_cons]
  | cons e r ih =>
    unfold insK
    by_cases h : e.1 < k
    · rw [if_pos h, look_cons, ih, look_cons]
      by_cases h2 : e.1 = k'
      · rw [if_pos h2, if_pos h2, if_neg (by omega)]
      · rw [if_neg h2, if_neg h2]
    · rw [if_neg h, look_cons]
theorem mem_ins {t : List Kv} {k : Int} {v : ByteArray} {x : Kv} (h : x ∈ insK t k v) : x = (k, v) ∨ x ∈ t := by
  induction t with
  | nil => unfold insK at h; simpa using h
  | cons e r ih =>
    unfold insK at h
    split at h
    · rcases List.mem_cons.1 h with h | h
      · exact Or.inr (by rw [h]; exact List.mem_cons_self)
      · rcases ih h with h | h
        · exact Or.inl h
        · exact Or.inr (List.mem_cons_of_mem _ h)
    · rcases List.mem_cons.1 h with h | h
      · exact Or.inl h
      · exact Or.inr h
theorem look_none_mem {t : List Kv} {k : Int} (h : look t k = none) : ∀ e ∈ t, e.1 ≠ k := by
  induction t with
  | nil => intro e he; cases he
  | cons x r ih =>
    rw [look_cons] at h
    intro e he
    split at h
    · cases h
    · rcases List.mem_cons.1 he with rfl | he
      · assumption
      · exact ih h e he
theorem rise_ins {t : List Kv} (h : Rise t) {k : Int} (hn : look t k = none) (v : ByteArray) : Rise (insK t k v) := by
  induction t with
  | nil => unfold insK; exact List.pairwise_singleton _ _
  | cons e r ih =>
    have hne := look_none_mem hn e List.mem_cons_self
    rw [look_cons, if_neg hne] at hn
    have hp := List.pairwise_cons.1 h
    unfold insK
    split
    · refine List.pairwise_cons.2 ⟨fun x hx => ?_, ih hp.2 hn⟩
      rcases mem_ins hx with rfl | hx
      · assumption
      · exact hp.1 x hx
    · rename_i hlt
      refine List.pairwise_cons.2 ⟨fun x hx => ?_, h⟩
      rcases List.mem_cons.1 hx with rfl | hx
      · show k < x.1; omega
      · have := hp.1 x hx; show k < x.1; omega
theorem look_mem {t : List Kv} {k : Int} {v : ByteArray} (h : look t k = some v) : (k, v) ∈ t := by
  induction t with
  | nil => cases h
  | cons e r ih =>
    rw [look_cons] at h
    split at h
    · rename_i e1; cases h; rw [← e1]; exact List.mem_cons_self
    · exact List.mem_cons_of_mem _ (ih h)
theorem look_of_lt {e : Kv} {r : List Kv} (h : Rise (e :: r)) : look r e.1 = none := by
  cases hl : look r e.1 with
  | none => rfl
  | some v =>
    have := (List.pairwise_cons.1 h).1 _ (look_mem hl)
    exact absurd this (Int.lt_irrefl _)
theorem rise_ext : ∀ {t t' : List Kv}, Rise t → Rise t' → (∀ k, look t k = look t' k) → t = t'
  | [], [], _, _, _ => rfl
  | [], e :: r, _, _, h => by have := h e.1; rw [look_cons, if_pos rfl] at this; cases this
  | e :: r, [], _, _, h => by have := h e.1; rw [look_cons, if_pos rfl] at this; cases this
  | e :: r, e' :: r', h1, h2, h => by
    have p1 := List.pairwise_cons.1 h1
    have p2 := List.pairwise_cons.1 h2
    have hk : e.1 = e'.1 := by
      rcases Int.lt_trichotomy e.1 e'.1 with hlt | heq | hgt
      · have := h e.1
        rw [look_cons, if_pos rfl] at this
        have hm := look_mem this.symm
        rcases List.mem_cons.1 hm with hm | hm
        · have : e.1 = e'.1 := by rw [← hm]
          exact this
        · have := p2.1 _ hm
          simp only at this
          omega
      · exact heq
      · have := h e'.1
        rw [look_cons (e := e'), if_pos rfl] at this
        have hm := look_mem this
        rcases List.mem_cons.1 hm with hm | hm
        · have : e'.1 = e.1 := by rw [← hm]
          exact this.symm
        · have := p1.1 _ hm
          simp only at this
          omega
    have hv : e.2 = e'.2 := by
      have := h e.1
      rw [look_cons, if_pos rfl, look_cons, if_pos hk.symm] at this
      exact Option.some.inj this
    have he : e = e' := Prod.ext hk hv
    subst he
    congr 1
    refine rise_ext p1.2 p2.2 (fun k => ?_)
    by_cases hke : e.1 = k
    · subst hke; rw [look_of_lt h1, look_of_lt h2]
    · have := h k
      rw [look_cons, if_neg hke, look_cons, if_neg hke] at this
      exact this

theorem pubs_cons (o : OpT) (os : List OpT) (k : Int) : pubs (o :: os) k = if o.1 = 1 ∧ o.2.1 = k then some o.2.2 else pubs os k := by
  unfold pubs
  rw [List.find?_cons]
  by_cases h : o.1 = 1 ∧ o.2.1 = k
  · have : (o.1 == 1 && o.2.1 == k) = true := by simp [h.1, h.2]
    rw [this, if_pos h]; rfl
  · have : (o.1 == 1 && o.2.1 == k) = false := by
      cases hb : (o.1 == 1 && o.2.1 == k) with
      | false => rfl
      | true => simp at hb; exact absurd hb h
    rw [this, if_neg h]
theorem look_doT (t : List Kv) (o : OpT) (k : Int) : look (doT t o) k = if o.1 = 1 ∧ o.2.1 = k then (match look t k with | some x => some x | none => some o.2.2) else look t k := by
  unfold doT
  by_cases h1 : o.1 = 1
  · rw [if_pos h1]
    cases hl : look t o.2.1 with
    | some x =>
      simp only
      by_cases h2 : o.2.1 = k
      · rw [if_pos ⟨h1, h2⟩, ← h2, hl]
      · rw [if_neg (fun h => h2 h.2)]
    | none =>
      simp only
      rw [look_ins]
      by_cases h2 : o.2.1 = k
      · rw [if_pos h2, if_pos ⟨h1, h2⟩, ← h2, hl]
      · rw [if_neg h2, if_neg (fun h => h2 h.2)]
  · rw [if_neg h1, if_neg (fun h => h1 h.1)]
theorem look_fold : ∀ (os : List OpT) (t : List Kv) (k : Int), look (os.foldl doT t) k = match look t k with | some x => some x | none => pubs os k
  | [], t, k => by cases h : look t k <;> simp [pubs, h]
  | o :: os, t, k => by
    rw [List.foldl_cons, look_fold os, look_doT, pubs_cons]
    by_cases h : o.1 = 1 ∧ o.2.1 = k
    · rw [if_pos h, if_pos h]
      cases look t k <;> rfl
    · rw [if_neg h, if_neg h]
theorem look_tabOf (os : List OpT) (k : Int) : look (tabOf os) k = pubs os k := look_fold os [] k
theorem rise_doT {t : List Kv} (h : Rise t) (o : OpT) : Rise (doT t o) := by
  unfold doT
  split
  · split
    · exact h
    · rename_i hn; exact rise_ins h hn _
  · exact h
theorem rise_fold : ∀ (os : List OpT) {t : List Kv}, Rise t → Rise (os.foldl doT t)
  | [], _, h => h
  | o :: os, _, h => rise_fold os (rise_doT h o)
theorem rise_tabOf (os : List OpT) : Rise (tabOf os) := rise_fold os List.Pairwise.nil
theorem tabOf_snoc (os : List OpT) (o : OpT) : tabOf (os ++ [o]) = doT (tabOf os) o := by unfold tabOf; rw [List.foldl_append]; rfl

/-! ### acts -/
structure ActT where
  i : Nat
  c : Nat
  op : OpT
  rp : RepT
  t : Nat

/-- The act A is of the call that begins at i. -/
def Own1 (s : St) (i : Nat) (A : ActT) : Prop :=
  ∃ m, s.ms[i]? = some m ∧ m.beg = true ∧ m.c = A.c ∧ m.op = A.op ∧ i < A.t ∧ ((∃ k m', Ends s.ms i k ∧ s.ms[k]? = some m' ∧ m'.rp = A.rp ∧ A.t ≤ k) ∨ ((cg s A.c).st = 2 ∧ (cg s A.c).rp = A.rp ∧ ∀ (j : Nat) (m' : MomT), i < j → s.ms[j]? = some m' → m'.c ≠ A.c))

structure Lin (cl : List (List OpT)) (s : St) (acs : List ActT) : Prop where
  inv : PInv cl s
  tab : s.tab = tabOf (acs.map ActT.op)
  legal : ∀ (a : Nat) (A : ActT), acs[a]? = some A → A.rp = doR (tabOf ((acs.take a).map ActT.op)) A.op
  mono : acs.Pairwise (fun A B => A.t ≤ B.t)
  le : ∀ A ∈ acs, A.t ≤ s.ms.length
  fwd : ∀ A ∈ acs, Own1 s A.i A
  nd : (acs.map ActT.i).Nodup
  bwd : ∀ (i : Nat) (m : MomT), s.ms[i]? = some m → m.beg = true → (∃ A ∈ acs, A.i = i) ∨ ((cg s m.c).st = 1 ∧ ∀ (j : Nat) (m' : MomT), i < j → s.ms[j]? = some m' → m'.c ≠ m.c)
  cur : ∀ c, c < cl.length → (cg s c).st ≠ 0 → ∃ (i : Nat) (m : MomT), s.ms[i]? = some m ∧ m.beg = true ∧ m.c = c ∧ (∃ r, (cg s c).ops = m.op :: r) ∧ ∀ (j : Nat) (m' : MomT), i < j → s.ms[j]? = some m' → m'.c ≠ c

theorem cg_begin (cl : List (List OpT)) (c : Nat) : (cg (begin0 cl) c).st = 0 := by
  unfold cg begin0
  rw [List.getD_eq_getElem?_getD]
  simp only [List.getElem?_map]
  cases cl[c]? <;> rfl
theorem Lin.begin {cl : List (List OpT)} (hk : ∀ l ∈ cl, ∀ o ∈ l, In64 o.2.1) : Lin cl (begin0 cl) [] where
  inv := PInv.begin hk
  tab := rfl
  legal := fun a A h => by simp at h
  mono := List.Pairwise.nil
  le := fun A h => by cases h
  fwd := fun A h => by cases h
  nd := List.nodup_nil
  bwd := fun i m h => by simp [begin0] at h
  cur := fun c _ h => absurd (cg_begin cl c) h

/-- The client that acts, none of its moments turned. -/
theorem Lin.quiet {cl : List (List OpT)} {s : St} {acs : List ActT} (h : Lin cl s acs) {i : Nat} (hi : i < s.cls.length) (x : Cl) (tab' : List Kv) (lkd' : Nat → Bool) (last' : Int) (hst : s.cls[i].st = 1) (hops : x.ops = s.cls[i].ops)
    (hP : PInv cl ⟨tab', lkd', s.cls.set i x, last', s.ms⟩) {o : OpT} {r : List OpT} (hop : s.cls[i].ops = o :: r)
    (hx : (x.st = 1 ∧ tab' = s.tab) ∨ (x.st = 2 ∧ tab' = doT s.tab o ∧ x.rp = doR s.tab o)) : ∃ acs', Lin cl ⟨tab', lkd', s.cls.set i x, last', s.ms⟩ acs' ∧ acs'.length ≤ acs.length + 1 := by
  have hci : cg s i = s.cls[i] := by unfold cg; rw [List.getD_eq_getElem?_getD]; simp [hi]
  have hcg : ∀ c, cg ⟨tab', lkd', s.cls.set i x, last', s.ms⟩ c = if c = i then x else cg s c := fun c => getD_set hi
  have keep : ∀ j A, Own1 s j A → Own1 ⟨tab', lkd', s.cls.set i x, last', s.ms⟩ j A := by
    rintro j A ⟨m, h1, h2, h3, h4, h5, h6 | ⟨h6, h7, h8⟩⟩
    · exact ⟨m, h1, h2, h3, h4, h5, Or.inl h6⟩
    · have hne : A.c ≠ i := by intro e; rw [e, hci] at h6; omega
      exact ⟨m, h1, h2, h3, h4, h5, Or.inr ⟨by rw [hcg, if_neg hne]; exact h6, by rw [hcg, if_neg hne]; exact h7, h8⟩⟩
  have hil : i < cl.length := by rw [← h.inv.len]; exact hi
  have cur' : ∀ c, c < cl.length → (cg ⟨tab', lkd', s.cls.set i x, last', s.ms⟩ c).st ≠ 0 → ∃ (i0 : Nat) (m : MomT), s.ms[i0]? = some m ∧ m.beg = true ∧ m.c = c ∧ (∃ r, (cg ⟨tab', lkd', s.cls.set i x, last', s.ms⟩ c).ops = m.op :: r) ∧ ∀ (j : Nat) (m' : MomT), i0 < j → s.ms[j]? = some m' → m'.c ≠ c := by
    intro c hc hs
    rw [hcg] at hs ⊢
    by_cases e : c = i
    · subst e
      rw [if_pos rfl]
      obtain ⟨i0, m, p1, p2, p3, p4, p5⟩ := h.cur c hc (by rw [hci]; omega)
      exact ⟨i0, m, p1, p2, p3, by rw [hops, ← hci]; exact p4, p5⟩
    · rw [if_neg e] at hs ⊢
      exact h.cur c hc hs
  rcases hx with ⟨hx, ht⟩ | ⟨hx, ht, hr⟩
  · refine ⟨acs, ⟨hP, by rw [← h.tab]; exact ht, h.legal, h.mono, h.le, fun A hA => keep _ A (h.fwd A hA), h.nd, fun j m hm hb => ?_, cur'⟩, by omega⟩
    rcases h.bwd j m hm hb with ho | ⟨h1, h2⟩
    · exact Or.inl ho
    · refine Or.inr ⟨?_, h2⟩
      rw [hcg]
      split
      · exact hx
      · exact h1
  · obtain ⟨i0, m0, p1, p2, p3, ⟨r0, p4⟩, p5⟩ := h.cur i hil (by rw [hci]; omega)
    rw [hci, hop] at p4
    have p4' : o = m0.op := by injection p4
    have hnew : ∀ j m, s.ms[j]? = some m → m.beg = true → m.c = i → m.op = o → (∀ (j' : Nat) (m' : MomT), j < j' → s.ms[j']? = some m' → m'.c ≠ i) → Own1 ⟨tab', lkd', s.cls.set i x, last', s.ms⟩ j ⟨j, i, o, doR s.tab o, s.ms.length⟩ := fun j m q1 q2 q3 q4 q5 =>
      ⟨m, q1, q2, q3, q4, get_lt q1, Or.inr ⟨by rw [hcg, if_pos rfl]; exact hx, by rw [hcg, if_pos rfl]; exact hr, q5⟩⟩
    refine ⟨acs ++ [⟨i0, i, o, doR s.tab o, s.ms.length⟩], ⟨hP, ?_, ?_, ?_, ?_, ?_, ?_, ?_, cur'⟩, by simp⟩
    · show tab' = _
      rw [List.map_append, List.map_cons, List.map_nil, tabOf_snoc, ← h.tab]; exact ht
    · intro a A hA
      rcases Nat.lt_or_ge a acs.length with e | e
      · rw [List.getElem?_append_left e] at hA
        rw [List.take_append_of_le_length (by omega)]
        exact h.legal a A hA
      · rw [List.getElem?_append_right e] at hA
        have ea : a = acs.length := by
          rcases Nat.eq_or_lt_of_le e with e2 | e2
          · exact e2.symm
          · rw [List.getElem?_eq_none (by simp; omega)] at hA; cases hA
        subst ea
        simp at hA
        subst hA
        rw [List.take_append_of_le_length (Nat.le_refl _), List.take_length, ← h.tab]
    · refine List.pairwise_append.2 ⟨h.mono, List.pairwise_singleton _ _, fun A hA B hB => ?_⟩
      simp at hB; subst hB; exact h.le A hA
    · intro A hA
      rcases List.mem_append.1 hA with hA | hA
      · exact h.le A hA
      · simp at hA; subst hA; exact Nat.le_refl _
    · intro A hA
      rcases List.mem_append.1 hA with hA | hA
      · exact keep _ A (h.fwd A hA)
      · simp at hA; subst hA
        exact hnew i0 m0 p1 p2 p3 p4'.symm p5
    · rw [List.map_append]
      refine List.nodup_append.2 ⟨h.nd, by simp, fun a ha b hb e => ?_⟩
      simp at hb
      obtain ⟨A, hA, rfl⟩ := List.mem_map.1 ha
      have eA : A.i = i0 := by rw [e, hb]
      obtain ⟨m, h1, h2, h3, h4, h5, ⟨k, m', q1, q2, q3, q4⟩ | ⟨h6, -, -⟩⟩ := h.fwd A hA
      · rw [eA] at h1 q1
        rw [p1] at h1
        cases h1
        exact p5 k m' q1.lt q2 ((q1.same _ _ p1 q2).1.trans p3)
      · rw [eA, p1] at h1
        cases h1
        rw [← h3, p3, hci] at h6
        omega
    · intro j m hm hb
      rcases h.bwd j m hm hb with ⟨A, hA, ho⟩ | ⟨h1, h2⟩
      · exact Or.inl ⟨A, List.mem_append_left _ hA, ho⟩
      · by_cases e : m.c = i
        · refine Or.inl ⟨_, List.mem_append_right _ (List.mem_singleton.2 rfl), ?_⟩
          show i0 = j
          rcases Nat.lt_trichotomy i0 j with e2 | e2 | e2
          · exact absurd e (p5 j m e2 hm)
          · exact e2
          · exact absurd (p3.trans e.symm) (h2 i0 m0 e2 p1)
        · refine Or.inr ⟨?_, h2⟩
          rw [hcg, if_neg e]; exact h1

theorem Lin.step {cl : List (List OpT)} {s : St} {acs : List ActT} (h : Lin cl s acs) {i : Nat} (hi : i ∈ able s) (last : Int) : ∃ acs', Lin cl (stepX { s with last := last } i) acs' ∧ acs'.length ≤ acs.length + 1 := by
  have hP := h.inv.step hi last
  obtain ⟨hl, hc⟩ := able_mem hi
  have hcl := h.inv.ok s.cls[i] (List.getElem_mem hl)
  have hci : cg s i = s.cls[i] := by unfold cg; rw [List.getD_eq_getElem?_getD]; simp [hl]
  obtain ⟨o, r, hop⟩ : ∃ o r, s.cls[i].ops = o :: r := by
    cases hop : s.cls[i].ops with
    | nil => simp [canGo, hop] at hc
    | cons o r => exact ⟨o, r, rfl⟩
  have hkn := hcl.first o r hop
  have hil : i < cl.length := by rw [← h.inv.len]; exact hl
  have hstep := stepX_eq (s := { s with last := last }) (i := i) hl hop
  rw [hstep] at hP ⊢
  clear hstep
  by_cases h0 : s.cls[i].st = 0
  · rw [if_pos h0] at hP ⊢
    have hcg : ∀ c, cg { s with last := last, ms := s.ms ++ [⟨i, true, o, rep0⟩], cls := s.cls.set i { s.cls[i] with st := 1 } } c = if c = i then { s.cls[i] with st := 1 } else cg s c := fun c => getD_set hl
    have keep : ∀ j A, Own1 s j A → Own1 { s with last := last, ms := s.ms ++ [⟨i, true, o, rep0⟩], cls := s.cls.set i { s.cls[i] with st := 1 } } j A := by
      rintro j A ⟨m, h1, h2, h3, h4, h5, ⟨k, m', q1, q2, q3, q4⟩ | ⟨h6, h7, h8⟩⟩
      · exact ⟨m, by show (s.ms ++ _)[j]? = _; rw [List.getElem?_append_left (get_lt h1)]; exact h1, h2, h3, h4, h5, Or.inl ⟨k, m', q1.app _, by show (s.ms ++ _)[k]? = _; rw [List.getElem?_append_left (get_lt q2)]; exact q2, q3, q4⟩⟩
      · have hne : A.c ≠ i := by intro e; rw [e, hci] at h6; omega
        refine ⟨m, by show (s.ms ++ _)[j]? = _; rw [List.getElem?_append_left (get_lt h1)]; exact h1, h2, h3, h4, h5, Or.inr ⟨by rw [hcg, if_neg hne]; exact h6, by rw [hcg, if_neg hne]; exact h7, fun j' m' q1 q2 => ?_⟩⟩
        rcases app_get q2 with q2 | ⟨-, rfl⟩
        · exact h8 j' m' q1 q2
        · exact fun e => hne e.symm
    refine ⟨acs, ⟨hP, h.tab, h.legal, h.mono, fun A hA => by have := h.le A hA; show _ ≤ (s.ms ++ _).length; simp; omega, fun A hA => keep _ A (h.fwd A hA), h.nd, fun j m hm hb => ?_, fun c hc' hs => ?_⟩, by omega⟩
    · rcases app_get hm with hm' | ⟨rfl, rfl⟩
      · rcases h.bwd j m hm' hb with ho | ⟨h1, h2⟩
        · exact Or.inl ho
        · have hne : m.c ≠ i := by intro e; rw [e, hci] at h1; omega
          refine Or.inr ⟨by rw [hcg, if_neg hne]; exact h1, fun j' m' q1 q2 => ?_⟩
          rcases app_get q2 with q2 | ⟨-, rfl⟩
          · exact h2 j' m' q1 q2
          · exact fun e => hne e.symm
      · refine Or.inr ⟨by rw [hcg, if_pos rfl], fun j' m' q1 q2 => ?_⟩
        have hlt2 : j' < (s.ms ++ [(⟨i, true, o, rep0⟩ : MomT)]).length := get_lt q2
        simp at hlt2
        have hj' : s.ms.length < j' := q1
        omega
    · rw [hcg] at hs ⊢
      by_cases e : c = i
      · subst e
        rw [if_pos rfl]
        refine ⟨s.ms.length, ⟨c, true, o, rep0⟩, by simp, rfl, rfl, ⟨r, hop⟩, fun j' m' q1 q2 => ?_⟩
        have hlt2 : j' < (s.ms ++ [(⟨c, true, o, rep0⟩ : MomT)]).length := get_lt q2
        simp at hlt2
        omega
      · rw [if_neg e] at hs ⊢
        obtain ⟨i0, m, p1, p2, p3, p4, p5⟩ := h.cur c hc' hs
        refine ⟨i0, m, by show (s.ms ++ _)[i0]? = _; rw [List.getElem?_append_left (get_lt p1)]; exact p1, p2, p3, p4, fun j' m' q1 q2 => ?_⟩
        rcases app_get q2 with q2 | ⟨-, rfl⟩
        · exact p5 j' m' q1 q2
        · exact fun e2 => e e2.symm
  · rw [if_neg h0] at hP ⊢
    by_cases h1 : s.cls[i].st = 1
    · rw [if_pos h1] at hP ⊢
      unfold actX at hP ⊢
      by_cases k1 : o.1 = 1
      · rw [if_pos k1] at hP ⊢
        cases hy : look s.tab o.2.1 with
        | some y =>
          simp only [hy] at hP ⊢
          exact h.quiet hl _ _ _ _ h1 rfl hP hop (Or.inr ⟨rfl, by unfold doT; rw [if_pos k1, hy], by unfold doR; rw [if_pos k1, hy]; rfl⟩)
        | none =>
          simp only [hy] at hP ⊢
          exact h.quiet hl _ _ _ _ h1 rfl hP hop (Or.inr ⟨rfl, by unfold doT; rw [if_pos k1, hy], by unfold doR; rw [if_pos k1, hy]; rfl⟩)
      · rw [if_neg k1] at hP ⊢
        by_cases k2 : o.1 = 2
        · rw [if_pos k2] at hP ⊢
          exact h.quiet hl _ _ _ _ h1 rfl hP hop (Or.inr ⟨rfl, by unfold doT; rw [if_neg k1], by unfold doR; rw [if_neg k1, if_pos k2]⟩)
        · rw [if_neg k2] at hP ⊢
          have k3 : o.1 = 3 := by simp [known] at hkn; omega
          rw [if_pos k3] at hP ⊢
          by_cases h8 : s.cls[i].lk < 8
          · rw [if_pos h8] at hP ⊢
            exact h.quiet hl _ _ _ _ h1 rfl hP hop (Or.inl ⟨h1, rfl⟩)
          · rw [if_neg h8] at hP ⊢
            exact h.quiet hl _ _ _ _ h1 rfl hP hop (Or.inr ⟨rfl, by unfold doT; rw [if_neg k1], by unfold doR; rw [if_neg k1, if_neg k2]⟩)
    · rw [if_neg h1] at hP ⊢
      have h2 : s.cls[i].st = 2 := by have := hcl.st; omega
      have hcg : ∀ c, cg { s with last := last, ms := s.ms ++ [⟨i, false, o, s.cls[i].rp⟩], cls := s.cls.set i { s.cls[i] with st := 0, ops := fromK r } } c = if c = i then { s.cls[i] with st := 0, ops := fromK r } else cg s c := fun c => getD_set hl
      have keep : ∀ j A, A ∈ acs → Own1 s j A → Own1 { s with last := last, ms := s.ms ++ [⟨i, false, o, s.cls[i].rp⟩], cls := s.cls.set i { s.cls[i] with st := 0, ops := fromK r } } j A := by
        rintro j A hA ⟨m, h1, h2', h3, h4, h5, ⟨k, m', q1, q2, q3, q4⟩ | ⟨h6, h7, h8⟩⟩
        · exact ⟨m, by show (s.ms ++ _)[j]? = _; rw [List.getElem?_append_left (get_lt h1)]; exact h1, h2', h3, h4, h5, Or.inl ⟨k, m', q1.app _, by show (s.ms ++ _)[k]? = _; rw [List.getElem?_append_left (get_lt q2)]; exact q2, q3, q4⟩⟩
        · have hm' : (s.ms ++ [(⟨i, false, o, s.cls[i].rp⟩ : MomT)])[j]? = some m := by rw [List.getElem?_append_left (get_lt h1)]; exact h1
          by_cases hne : A.c = i
          · rw [hne, hci] at h7
            rcases h.inv.hist j m h1 h2' with ⟨k, hk⟩ | ⟨-, ⟨r', e2⟩, -⟩
            · have hk' : s.ms[k]? = some (s.ms[k]'hk.hk) := List.getElem?_eq_getElem hk.hk
              exact absurd ((hk.same m _ h1 hk').1.trans h3) (h8 k _ hk.lt hk')
            · rw [h3, hne, hci, hop] at e2
              have e2' : o = m.op := by injection e2
              refine ⟨m, hm', h2', h3, h4, h5, Or.inl ⟨s.ms.length, ⟨i, false, o, s.cls[i].rp⟩, ⟨get_lt h1, by simp, fun m1 m2 p1 p2 => ?_, fun j' m1 m2 p0 p1 p2 p3 => ?_⟩, by simp, h7, h.le A hA⟩⟩
              · rw [hm'] at p1
                cases p1
                simp at p2
                subst p2
                exact ⟨by rw [h3]; exact hne.symm, rfl, e2'⟩
              · rw [hm'] at p2
                cases p2
                rw [List.getElem?_append_left p1] at p3
                rw [h3]
                exact h8 j' m2 p0 p3
          · refine ⟨m, hm', h2', h3, h4, h5, Or.inr ⟨by rw [hcg, if_neg hne]; exact h6, by rw [hcg, if_neg hne]; exact h7, fun j' m' q1 q2 => ?_⟩⟩
            rcases app_get q2 with q2 | ⟨-, rfl⟩
            · exact h8 j' m' q1 q2
            · exact fun e => hne e.symm
      refine ⟨acs, ⟨hP, h.tab, h.legal, h.mono, fun A hA => by have := h.le A hA; show _ ≤ (s.ms ++ _).length; simp; omega, fun A hA => keep _ A hA (h.fwd A hA), h.nd, fun j m hm hb => ?_, fun c hc' hs => ?_⟩, by omega⟩
      · rcases app_get hm with hm' | ⟨rfl, rfl⟩
        · rcases h.bwd j m hm' hb with ho | ⟨h1', h2'⟩
          · exact Or.inl ho
          · have hne : m.c ≠ i := by intro e; rw [e, hci] at h1'; omega
            refine Or.inr ⟨by rw [hcg, if_neg hne]; exact h1', fun j' m' q1 q2 => ?_⟩
            rcases app_get q2 with q2 | ⟨-, rfl⟩
            · exact h2' j' m' q1 q2
            · exact fun e => hne e.symm
        · cases hb
      · rw [hcg] at hs ⊢
        by_cases e : c = i
        · subst e
          rw [if_pos rfl] at hs
          exact absurd rfl hs
        · rw [if_neg e] at hs ⊢
          obtain ⟨i0, m, p1, p2, p3, p4, p5⟩ := h.cur c hc' hs
          refine ⟨i0, m, by show (s.ms ++ _)[i0]? = _; rw [List.getElem?_append_left (get_lt p1)]; exact p1, p2, p3, p4, fun j' m' q1 q2 => ?_⟩
          rcases app_get q2 with q2 | ⟨-, rfl⟩
          · exact p5 j' m' q1 q2
          · exact fun e2 => e e2.symm

theorem Lin.iterates {cl : List (List OpT)} (hk : ∀ l ∈ cl, ∀ o ∈ l, In64 o.2.1) (zs : List Int) : ∀ k, ∃ acs, Lin cl (iter zs (begin0 cl) k) acs ∧ acs.length + mu (iter zs (begin0 cl) k) ≤ mu (begin0 cl)
  | 0 => ⟨[], Lin.begin hk, by simp [iter]⟩
  | k + 1 => by
    obtain ⟨acs, ih, hm⟩ := Lin.iterates hk zs k
    by_cases hab : able (iter zs (begin0 cl) k) = []
    · have : iter zs (begin0 cl) (k + 1) = iter zs (begin0 cl) k := iter_stop hab 1
      rw [this]; exact ⟨acs, ih, hm⟩
    · rw [iter_step hab]
      obtain ⟨acs', h1, h2⟩ := ih.step (pick_mem (last := (iter zs (begin0 cl) k).last) (zs := zs) (k := k) hab) (pickX (iter zs (begin0 cl) k).last (able (iter zs (begin0 cl) k)) zs k : Nat)
      have h3 := (step_ok ih.inv.ok (pick_mem (last := (iter zs (begin0 cl) k).last) (zs := zs) (k := k) hab) (pickX (iter zs (begin0 cl) k).last (able (iter zs (begin0 cl) k)) zs k : Nat)).2.1
      refine ⟨acs', h1, Nat.le_trans (Nat.le_trans (Nat.add_le_add_right h2 _) ?_) hm⟩
      rw [Nat.add_assoc, Nat.add_comm 1]
      exact Nat.add_le_add_left h3 _

/-- Whose act it is, at the end. -/
def Own2 (ms : List MomT) (i k : Nat) (A : ActT) : Prop :=
  ∃ m m', ms[i]? = some m ∧ m.beg = true ∧ m.c = A.c ∧ m.op = A.op ∧ i < A.t ∧ Ends ms i k ∧ ms[k]? = some m' ∧ m'.rp = A.rp ∧ A.t ≤ k
theorem Lin.over {cl : List (List OpT)} {s : St} {acs : List ActT} (h : Lin cl s acs) (hab : able s = []) : (∀ A ∈ acs, ∃ k, Own2 s.ms A.i k A) ∧ ∀ (i : Nat) (m : MomT), s.ms[i]? = some m → m.beg = true → ∃ A ∈ acs, A.i = i := by
  have ho := h.inv.over hab
  have hst : ∀ c, c < cl.length → (cg s c).st = 0 := fun c hc => by
    have hc' : c < s.cls.length := by rw [h.inv.len]; exact hc
    have : cg s c = s.cls[c] := by unfold cg; rw [List.getD_eq_getElem?_getD]; simp [hc']
    have h2 := ho c hc
    rw [this] at h2 ⊢
    exact (h.inv.ok _ (List.getElem_mem hc')).empty h2
  have conv : ∀ i A, Own1 s i A → ∃ k, Own2 s.ms i k A := by
    rintro i A ⟨m, h1, h2, h3, h4, h5, ⟨k, m', q1, q2, q3, q4⟩ | ⟨h6, -, -⟩⟩
    · exact ⟨k, m, m', h1, h2, h3, h4, h5, q1, q2, q3, q4⟩
    · have := hst A.c (by rw [← h3]; exact h.inv.who i m h1)
      omega
  refine ⟨fun A hA => ?_, fun i m hm hb => ?_⟩
  · exact conv _ A (h.fwd A hA)
  · rcases h.bwd i m hm hb with ho' | ⟨h1, -⟩
    · exact ho'
    · have := hst m.c (h.inv.who i m hm)
      omega
end Go.Proofs.YtihicdbplmdjiaaGreat.Pl
