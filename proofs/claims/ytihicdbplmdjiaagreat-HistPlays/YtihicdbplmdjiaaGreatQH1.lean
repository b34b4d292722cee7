import Derived.Test.YtihicdbplmdjiaaGreatQC3J
set_option linter.unusedVariables false
set_option linter.unusedSimpArgs false
namespace Go.Proofs.YtihicdbplmdjiaaGreat

/-! ### the document's calls, in plain words -/
def begAt (h : List Mo) (i : Nat) : Bool := (h[i]?.map Mo.beg).getD false
def begins (h : List Mo) (k : Nat) : List Nat := (List.range k).filter (fun i => begAt h i)
def endsOf (h : List Mo) (k : Nat) : List Nat := (List.range k).filter (fun i => !begAt h i)
/-- No moment of a client between two places. -/
def NoM (h : List Mo) (q : Int) (p k : Nat) : Prop := ∀ j, p < j → j < k → ∀ x, h[j]? = some x → x.c ≠ q
/-- A call that begins and ends as it should. -/
structure RightB (h : List Mo) (p : Nat) (c : Cl) (m m' : Mo) : Prop where
  b : c.b = p
  hm : h[p]? = some m
  beg : m.beg = true
  op : rightOpB m.kd m.ky m.v = true
  zero : isZeroB m.R.r = true
  kd : c.kd = m.kd
  ky : c.ky = m.ky
  v : c.v = m.v
  lt : p < c.e
  e : h[c.e]? = some m'
  cl : m'.c = m.c
  no : NoM h m.c p c.e
  en : m'.beg = false
  same : sameOp m' c = true
  rep : rightReplyB m.kd m'.R.r = true
  R : c.R = m'.R
def Right (h : List Mo) (p : Nat) (c : Cl) : Prop := ∃ m m', RightB h p c m m'
structure RefOk (h : List Mo) (cs : List Cl) : Prop where
  le : (begins h h.length).length ≤ 64
  bs : cs.map Cl.b = begins h h.length
  each : ∀ c ∈ cs, Right h c.b c
  ends : (endsOf h h.length).length = cs.length

theorem begins_snoc (h : List Mo) (k : Nat) : begins h (k + 1) = begins h k ++ (if begAt h k then [k] else []) := by
  unfold begins
  rw [List.range_succ, List.filter_append]
  congr 1
  cases hb : begAt h k <;> simp [hb]
theorem endsOf_snoc (h : List Mo) (k : Nat) : endsOf h (k + 1) = endsOf h k ++ (if begAt h k then [] else [k]) := by
  unfold endsOf
  rw [List.range_succ, List.filter_append]
  congr 1
  cases hb : begAt h k <;> simp [hb]
theorem begAt_of {h : List Mo} {k : Nat} {m : Mo} (e : h[k]? = some m) : begAt h k = m.beg := by unfold begAt; rw [e]; rfl
theorem NoM.more {h : List Mo} {q : Int} {p k : Nat} {m : Mo} (x : NoM h q p k) (e : h[k]? = some m) (hq : m.c ≠ q) : NoM h q p (k + 1) := fun j h1 h2 y hy => by
  rcases Nat.lt_or_ge j k with hl | hl
  · exact x j h1 hl y hy
  · have : j = k := by omega
    subst this
    rw [e] at hy; cases hy; exact hq
theorem Right.unique {h : List Mo} {p : Nat} {c d : Cl} (x : Right h p c) (y : Right h p d) : c = d := by
  obtain ⟨m, m', x⟩ := x
  obtain ⟨n, n', y⟩ := y
  have e1 : m = n := by have := x.hm.symm.trans y.hm; simpa using this
  subst e1
  have e2 : c.e = d.e := by
    rcases Nat.lt_trichotomy c.e d.e with hl | hl | hl
    · exact absurd x.cl (y.no c.e x.lt hl m' x.e)
    · exact hl
    · exact absurd y.cl (x.no d.e y.lt hl n' y.e)
  have e3 : m' = n' := by have := x.e.symm.trans (e2 ▸ y.e); simpa using this
  subst e3
  have hb := x.b.trans y.b.symm
  have h1 := x.kd.trans y.kd.symm
  have h2 := x.ky.trans y.ky.symm
  have h3 := x.v.trans y.v.symm
  have h4 := x.R.trans y.R.symm
  cases c; cases d
  simp only at hb e2 h1 h2 h3 h4
  subst hb e2 h1 h2 h3 h4; rfl
theorem RefOk.unique {h : List Mo} {cs ds : List Cl} (x : RefOk h cs) (y : RefOk h ds) : cs = ds := by
  have hl : cs.length = ds.length := by rw [← x.ends, y.ends]
  refine List.ext_getElem hl fun i h1 h2 => ?_
  have hb : cs[i].b = ds[i].b := by
    have := congrArg (fun l => l[i]?) (x.bs.trans y.bs.symm)
    simpa [List.getElem?_eq_getElem h1, List.getElem?_eq_getElem h2] using this
  have a := x.each _ (List.getElem_mem h1)
  have b := y.each _ (List.getElem_mem h2)
  rw [← hb] at b
  exact a.unique b
/-- What a run of the open calls comes to. -/
structure Inv (h : List Mo) (k : Nat) (s : St) : Prop where
  bs : s.cs.map Cl.b = begins h k
  each : ∀ i c, s.cs[i]? = some c → ∃ m, h[c.b]? = some m ∧ m.beg = true ∧ rightOpB m.kd m.ky m.v = true ∧ isZeroB m.R.r = true ∧ c.kd = m.kd ∧ c.ky = m.ky ∧ c.v = m.v ∧
    ((s.op.lookup m.c = some i ∧ NoM h m.c c.b k) ∨ (c.e < k ∧ Right h c.b c))
  opn : ∀ q i, s.op.lookup q = some i → ∃ c m, s.cs[i]? = some c ∧ h[c.b]? = some m ∧ m.c = q ∧ NoM h q c.b k
  ends : (endsOf h k).length + s.op.length = s.cs.length
theorem inv_run (h : List Mo) : ∀ k s, k ≤ h.length → runO h k = some s → Inv h k s
  | 0, s, _, e => by
    cases e
    exact ⟨rfl, fun i c hc => by simp at hc, fun q i hq => by simp at hq, rfl⟩
  | k + 1, s', hk, e => by
    cases e0 : runO h k with
    | none => rw [runO_none e0 1] at e; cases e
    | some s =>
      have ih := inv_run h k s (by omega) e0
      have hok := stOk_run h k s e0
      have em : h[k]? = some h[k] := List.getElem?_eq_getElem (by omega)
      obtain ⟨m, hm⟩ : ∃ m, m = h[k] := ⟨_, rfl⟩
      rw [← hm] at em
      clear hm
      rw [runO_step e0 em] at e
      unfold stepO at e
      split at e
      · next hl =>
        split at e
        · next hcond =>
          cases e
          simp only [Bool.and_eq_true] at hcond
          obtain ⟨⟨hb, ho⟩, hz⟩ := hcond
          have hne : ∀ q i, s.op.lookup q = some i → m.c ≠ q := fun q i hq hqe => by rw [← hqe, hl] at hq; cases hq
          refine ⟨?_, fun i c hc => ?_, fun q i hq => ?_, ?_⟩
          · rw [begins_snoc, begAt_of em, hb, if_pos rfl, List.map_append, ih.bs]; rfl
          · rcases Nat.lt_or_ge i s.cs.length with hi | hi
            · rw [List.getElem?_append_left hi] at hc
              obtain ⟨m0, q1, q2, q3, q4, q5, q6, q7, q8⟩ := ih.each i c hc
              refine ⟨m0, q1, q2, q3, q4, q5, q6, q7, ?_⟩
              rcases q8 with ⟨r1, r2⟩ | ⟨r1, r2⟩
              · have hq := hne _ _ r1
                refine Or.inl ⟨?_, r2.more em hq⟩
                rw [List.lookup_cons, show (m0.c == m.c) = false by simpa using fun x => hq x.symm]
                exact r1
              · exact Or.inr ⟨by omega, r2⟩
            · rw [List.getElem?_append_right hi] at hc
              have h0 : i - s.cs.length = 0 := by
                have := (List.getElem?_eq_some_iff.1 hc).1
                simp at this; omega
              rw [h0] at hc
              simp at hc
              subst hc
              refine ⟨m, em, hb, ho, hz, rfl, rfl, rfl, Or.inl ⟨?_, fun j h1 h2 => ?_⟩⟩
              · rw [List.lookup_cons]; simp; omega
              · have h1' : k < j := h1
                omega
          · rw [List.lookup_cons] at hq
            by_cases e : q = m.c
            · subst e
              simp at hq
              subst hq
              refine ⟨begun k m, m, by simp, em, rfl, fun j h1 h2 => ?_⟩
              have h1' : k < j := h1
              omega
            · rw [show (q == m.c) = false by simpa using e] at hq
              obtain ⟨c, m0, r1, r2, r3, r4⟩ := ih.opn q i hq
              refine ⟨c, m0, ?_, r2, r3, r4.more em (fun x => e x.symm)⟩
              rw [List.getElem?_append_left (List.getElem?_eq_some_iff.1 r1).1]
              exact r1
          · rw [endsOf_snoc, begAt_of em, hb, if_pos rfl]
            have := ih.ends
            simp; omega
        · cases e
      · next i hl =>
        split at e
        · cases e
        · next c hc =>
          split at e
          · next hcond =>
            cases e
            simp only [Bool.and_eq_true, Bool.not_eq_true'] at hcond
            obtain ⟨⟨hb, hs⟩, hr⟩ := hcond
            obtain ⟨c', m0, o1, o2, o3, o4⟩ := ih.opn _ _ hl
            rw [hc] at o1; cases o1
            have hi := (List.getElem?_eq_some_iff.1 hc).1
            have hlt : c.b < k := hok.cb c (List.mem_of_getElem? hc)
            refine ⟨?_, fun j d hd => ?_, fun q j hq => ?_, ?_⟩
            · rw [begins_snoc, begAt_of em, hb, map_set_same Cl.b (c.ended k m) _ i c hc rfl, ih.bs]; simp
            · by_cases hji : j = i
              · subst hji
                rw [List.getElem?_set_self hi] at hd
                cases hd
                obtain ⟨m1, q1, q2, q3, q4, q5, q6, q7, -⟩ := ih.each j c hc
                have e1 : m1 = m0 := by have := q1.symm.trans o2; simpa using this
                subst e1
                have hs2 := of_decide_eq_true hs
                refine ⟨m1, q1, q2, q3, q4, q5, q6, q7, Or.inr ⟨Nat.lt_succ_self k, m1, m, ⟨rfl, q1, q2, q3, q4, q5, q6, q7, hlt, em, o3.symm, by rw [o3]; exact o4, hb, hs, ?_, rfl⟩⟩⟩
                rw [← q5, ← hs2.1]
                exact hr
              · rw [List.getElem?_set_ne (fun x => hji x.symm)] at hd
                obtain ⟨m1, q1, q2, q3, q4, q5, q6, q7, q8⟩ := ih.each j d hd
                refine ⟨m1, q1, q2, q3, q4, q5, q6, q7, ?_⟩
                rcases q8 with ⟨r1, r2⟩ | ⟨r1, r2⟩
                · have hq : m1.c ≠ m.c := fun x => by
                    rw [x, hl] at r1
                    cases r1; exact hji rfl
                  refine Or.inl ⟨?_, r2.more em (fun x => hq x.symm)⟩
                  rw [lookup_filter, if_neg hq]
                  exact r1
                · exact Or.inr ⟨by omega, r2⟩
            · rw [lookup_filter] at hq
              by_cases e : q = m.c
              · rw [if_pos e] at hq; cases hq
              · rw [if_neg e] at hq
                obtain ⟨d, m1, r1, r2, r3, r4⟩ := ih.opn q j hq
                have hji : i ≠ j := by
                  rintro rfl
                  rw [hc] at r1; cases r1
                  have : m1 = m0 := by have := r2.symm.trans o2; simpa using this
                  subst this
                  exact e (r3.symm.trans o3)
                exact ⟨d, m1, by rw [List.getElem?_set_ne hji]; exact r1, r2, r3, r4.more em (fun x => e x.symm)⟩
            · rw [endsOf_snoc, begAt_of em, hb]
              have h1 := ih.ends
              have h2 := filter_len hok.nodup hl
              simp only [List.length_append, List.length_set, Bool.false_eq_true, if_false, List.length_cons, List.length_nil]
              omega
          · cases e
theorem both_len (h : List Mo) (k : Nat) : (begins h k).length + (endsOf h k).length = k := by
  induction k with
  | zero => rfl
  | succ k ih =>
    rw [begins_snoc, endsOf_snoc]
    cases begAt h k <;> simp <;> omega
/-- What callsOf tells is what the document's Calls tells. -/
theorem calls_ref {h : List Mo} {cs : List Cl} (e : callsX h = some cs) : RefOk h cs := by
  unfold callsX at e
  split at e
  · cases e
  · next hn =>
    cases e0 : runO h h.length with
    | none => rw [e0] at e; cases e
    | some s =>
      rw [e0] at e
      simp only [Option.bind_some] at e
      split at e
      · next ho =>
        cases e
        have hi := inv_run h _ s (Nat.le_refl _) e0
        have hb := both_len h h.length
        have he := hi.ends
        rw [ho] at he
        have hbl := congrArg List.length hi.bs
        simp only [List.length_map, List.length_nil] at hbl he
        refine ⟨by omega, hi.bs, fun c hc => ?_, by omega⟩
        obtain ⟨i, hi1, rfl⟩ := List.getElem_of_mem hc
        obtain ⟨m, -, -, -, -, -, -, -, q⟩ := hi.each i _ (List.getElem?_eq_getElem hi1)
        rcases q with ⟨q, -⟩ | ⟨-, q⟩
        · rw [ho] at q; simp at q
        · exact q
      · cases e
theorem RefOk.ended {h : List Mo} {cs : List Cl} (x : RefOk h cs) {k : Nat} (hk : k < h.length) (hb : begAt h k = false) : ∃ c ∈ cs, c.e = k := by
  apply Classical.byContradiction
  intro hno
  have hbs : (cs.map Cl.b).Nodup := by rw [x.bs]; exact List.nodup_range.filter _
  have hnd : (k :: cs.map Cl.e).Nodup := by
    refine List.nodup_cons.2 ⟨fun hm => ?_, ?_⟩
    · obtain ⟨c, hc, e⟩ := List.mem_map.1 hm
      exact hno ⟨c, hc, e⟩
    · unfold List.Nodup
      rw [List.pairwise_map]
      unfold List.Nodup at hbs
      rw [List.pairwise_map] at hbs
      refine hbs.imp_of_mem fun {c d} hc hd hne e => ?_
      obtain ⟨m, m', a⟩ := x.each c hc
      obtain ⟨n, n', b⟩ := x.each d hd
      have e1 : m' = n' := by have := a.e.symm.trans (e ▸ b.e); simpa using this
      subst e1
      have ec : m.c = n.c := a.cl.symm.trans b.cl
      rcases Nat.lt_or_ge c.b d.b with hl | hl
      · exact a.no d.b hl (by rw [e]; exact b.lt) n b.hm ec.symm
      · exact b.no c.b (by omega) (by rw [← e]; exact a.lt) m a.hm ec
  have := len_sub (l2 := endsOf h h.length) hnd (fun j hj => by
    unfold endsOf
    rw [List.mem_filter, List.mem_range]
    rcases List.mem_cons.1 hj with rfl | hj
    · exact ⟨hk, by rw [hb]; rfl⟩
    · obtain ⟨c, hc, rfl⟩ := List.mem_map.1 hj
      obtain ⟨m, m', a⟩ := x.each c hc
      exact ⟨(List.getElem?_eq_some_iff.1 a.e).1, by rw [begAt_of a.e, a.en]; rfl⟩)
  have hl := x.ends
  simp at this
  omega
theorem RefOk.at {h : List Mo} {cs : List Cl} (x : RefOk h cs) {k : Nat} {m : Mo} (e : h[k]? = some m) (hb : m.beg = true) : ∃ c, Right h k c := by
  have : k ∈ begins h h.length := by
    unfold begins
    rw [List.mem_filter, List.mem_range]
    exact ⟨(List.getElem?_eq_some_iff.1 e).1, by rw [begAt_of e, hb]⟩
  rw [← x.bs] at this
  obtain ⟨c, hc, rfl⟩ := List.mem_map.1 this
  exact ⟨c, x.each c hc⟩
theorem RefOk.run {h : List Mo} {cs : List Cl} (x : RefOk h cs) : ∀ k, k ≤ h.length → ∃ s, runO h k = some s
  | 0, _ => ⟨_, rfl⟩
  | k + 1, hk => by
    obtain ⟨s, e0⟩ := x.run k (by omega)
    have hi := inv_run h k s (by omega) e0
    have em : h[k]? = some h[k] := List.getElem?_eq_getElem (by omega)
    obtain ⟨m, hm⟩ : ∃ m, m = h[k] := ⟨_, rfl⟩
    rw [← hm] at em
    clear hm
    rw [runO_step e0 em]
    unfold stepO
    cases hl : s.op.lookup m.c with
    | none =>
      simp only
      cases hb : m.beg with
      | true =>
        obtain ⟨c, n, n', r⟩ := x.at em hb
        have e1 : n = m := by have := r.hm.symm.trans em; simpa using this
        subst e1
        rw [r.op, r.zero]
        exact ⟨_, rfl⟩
      | false =>
        exfalso
        obtain ⟨c, hc, he⟩ := x.ended (k := k) (by omega) (by rw [begAt_of em, hb])
        obtain ⟨n, n', r⟩ := x.each c hc
        have e1 : n' = m := by have := r.e.symm.trans (he ▸ em); simpa using this
        subst e1
        have hlt : c.b < k := he ▸ r.lt
        have hm : c.b ∈ s.cs.map Cl.b := by
          rw [hi.bs]
          unfold begins
          rw [List.mem_filter, List.mem_range]
          exact ⟨hlt, by rw [begAt_of r.hm, r.beg]⟩
        obtain ⟨d, hd, hdb⟩ := List.mem_map.1 hm
        obtain ⟨i, hi1, rfl⟩ := List.getElem_of_mem hd
        obtain ⟨m1, q1, -, -, -, -, -, -, q⟩ := hi.each i _ (List.getElem?_eq_getElem hi1)
        rw [hdb] at q1 q
        have e2 : m1 = n := by have := q1.symm.trans r.hm; simpa using this
        subst e2
        rcases q with ⟨q, -⟩ | ⟨q2, q⟩
        · rw [← r.cl, hl] at q; cases q
        · have := q.unique ⟨m1, n', r⟩
          rw [this] at q2
          omega
    | some i =>
      obtain ⟨c, m0, o1, o2, o3, o4⟩ := hi.opn _ _ hl
      simp only [o1]
      obtain ⟨m1, q1, q2, q3, q4, q5, q6, q7, -⟩ := hi.each i c o1
      have e1 : m1 = m0 := by have := q1.symm.trans o2; simpa using this
      subst e1
      obtain ⟨d, n, n', r⟩ := x.at q1 q2
      have e1 : n = m1 := by have := r.hm.symm.trans q1; simpa using this
      subst e1
      have hcb : c.b < k := (stOk_run h k s e0).cb c (List.mem_of_getElem? o1)
      have hde : d.e = k := by
        rcases Nat.lt_trichotomy d.e k with hlt | hlt | hlt
        · exact absurd (r.cl.trans o3) (o4 d.e r.lt hlt n' r.e)
        · exact hlt
        · exact absurd o3.symm (r.no k hcb hlt m em)
      have e2 : n' = m := by have := r.e.symm.trans (hde ▸ em); simpa using this
      subst e2
      have hs : sameOp n' c = true := by
        have := r.same
        unfold sameOp at this ⊢
        rw [q5, q6, q7, ← r.kd, ← r.ky, ← r.v]
        exact this
      have hkd : n'.kd = n.kd := (of_decide_eq_true hs).1.trans q5
      rw [r.en, hs, hkd, r.rep]
      exact ⟨_, rfl⟩
/-- What the document's Calls tells is what callsOf tells. -/
theorem ref_calls {h : List Mo} {cs : List Cl} (x : RefOk h cs) : callsX h = some cs := by
  obtain ⟨s, e0⟩ := x.run h.length (Nat.le_refl _)
  have hi := inv_run h _ s (Nat.le_refl _) e0
  have hb := both_len h h.length
  have hbl := congrArg List.length x.bs
  have hle := x.le
  have he := x.ends
  simp only [List.length_map] at hbl
  have ho : s.op = [] := by
    cases eo : s.op with
    | nil => rfl
    | cons p l =>
      exfalso
      obtain ⟨q0, i0⟩ := p
      obtain ⟨c, m, o1, o2, o3, o4⟩ := hi.opn q0 i0 (by rw [eo, List.lookup_cons]; simp)
      obtain ⟨m1, q1, q2, -⟩ := hi.each _ c o1
      have e1 : m1 = m := by have := q1.symm.trans o2; simpa using this
      subst e1
      obtain ⟨d, n, n', r⟩ := x.at q1 q2
      have e1 : n = m1 := by have := r.hm.symm.trans q1; simpa using this
      subst e1
      exact o4 d.e r.lt (List.getElem?_eq_some_iff.1 r.e).1 n' r.e (r.cl.trans o3)
  have hc : callsX h = some s.cs := by
    unfold callsX
    rw [if_neg (by omega), e0]
    simp only [Option.bind_some]
    rw [if_pos ho]
  rw [hc, (calls_ref hc).unique x]
end Go.Proofs.YtihicdbplmdjiaaGreat
