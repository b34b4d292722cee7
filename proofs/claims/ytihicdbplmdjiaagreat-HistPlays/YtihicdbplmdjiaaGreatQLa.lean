import Derived.Test.YtihicdbplmdjiaaGreatQC3J
set_option linter.unusedVariables false
set_option linter.unusedSimpArgs false
namespace Go.Proofs.YtihicdbplmdjiaaGreat

/-! ### what any order that is one keeps -/
structure Val (cs L : List Cl) : Prop where
  sub : ∀ c ∈ L, c ∈ cs
  fit : ∀ us c bs, L = us ++ c :: bs → fitsB us c = true
theorem play_val {cs : List Cl} : ∀ (os : List Int) (us : List Cl), playX cs us os = true → ∃ L : List Cl, os = L.map (fun c => (c.b : Int)) ∧ (∀ c ∈ L, c ∈ cs) ∧ ∀ vs c bs, L = vs ++ c :: bs → fitsB (us ++ vs) c = true
  | [], us, _ => ⟨[], rfl, by simp, fun vs c bs e => by simp at e⟩
  | o :: r, us, h => by
    unfold playX at h
    cases e : atX cs o with
    | none => rw [e] at h; cases h
    | some c =>
      rw [e] at h
      simp only [Bool.and_eq_true] at h
      obtain ⟨L, h1, h2, h3⟩ := play_val r (us ++ [c]) h.2
      have hc : c ∈ cs ∧ (c.b : Int) = o := by
        unfold atX at e
        have h4 := List.find?_some e
        exact ⟨List.mem_of_find?_eq_some e, of_decide_eq_true h4⟩
      refine ⟨c :: L, by rw [List.map_cons, hc.2, h1], fun d hd => ?_, fun vs d bs e2 => ?_⟩
      · rcases List.mem_cons.1 hd with rfl | hd
        · exact hc.1
        · exact h2 d hd
      · cases vs with
        | nil =>
          simp only [List.nil_append, List.cons.injEq] at e2
          rw [← e2.1, List.append_nil]
          exact h.1
        | cons a vs =>
          simp only [List.cons_append, List.cons.injEq] at e2
          have := h3 vs d bs e2.2
          rw [List.append_assoc, List.singleton_append, e2.1] at this
          exact this
theorem Val.clk {cs L us bs : List Cl} {c d : Cl} (h : Val cs L) (e : L = us ++ c :: bs) (hd : d ∈ us) : d.b ≠ c.b ∧ ¬ c.e < d.b := by
  have := h.fit us c bs e
  unfold fitsB at this
  rw [Bool.and_eq_true, List.all_eq_true] at this
  have := this.1 d hd
  simpa using this
theorem Val.rep {cs L us bs : List Cl} {c : Cl} (h : Val cs L) (e : L = us ++ c :: bs) : doR (tabOf (us.map opT)) (opT c) = repT c := by
  have := h.fit us c bs e
  unfold fitsB at this
  rw [Bool.and_eq_true] at this
  exact repB_iff.1 this.2
theorem rep1 {us : List Cl} {c : Cl} (h : doR (tabOf (us.map opT)) (opT c) = repT c) (hk : c.kd = 1) : c.R.r.ok = (look (tabOf (us.map opT)) c.ky).isNone := by
  unfold doR at h
  rw [if_pos (show (opT c).1 = 1 from hk)] at h
  exact (congrArg RepT.ok h).symm
theorem rep2 {us : List Cl} {c : Cl} (h : doR (tabOf (us.map opT)) (opT c) = repT c) (hk : c.kd = 2) : c.R.r.ok = (look (tabOf (us.map opT)) c.ky).isSome ∧ c.R.r.val = (look (tabOf (us.map opT)) c.ky).getD ⟨#[]⟩ := by
  unfold doR at h
  rw [if_neg (show ¬ (opT c).1 = 1 by show ¬ c.kd = 1; omega), if_pos (show (opT c).1 = 2 from hk)] at h
  exact ⟨(congrArg RepT.ok h).symm, (congrArg RepT.val h).symm⟩
theorem rep3 {us : List Cl} {c : Cl} (h : doR (tabOf (us.map opT)) (opT c) = repT c) (hk : c.kd = 3) : c.R.r.keys.zip c.R.r.vals = tabOf (us.map opT) := by
  unfold doR at h
  rw [if_neg (show ¬ (opT c).1 = 1 by show ¬ c.kd = 1; omega), if_neg (show ¬ (opT c).1 = 2 by show ¬ c.kd = 2; omega)] at h
  exact (congrArg RepT.L h).symm
theorem pub_look {us : List Cl} {d : Cl} {k : Int} (hd : d ∈ us) (h1 : d.kd = 1) (h2 : d.ky = k) : (look (tabOf (us.map opT)) k).isSome = true := by
  rw [look_tabOf]
  cases e : pubs (us.map opT) k with
  | some v => rfl
  | none => exact absurd ⟨h1, h2⟩ (pubs_none e d hd)
theorem look_pub {us : List Cl} {k : Int} (h : (look (tabOf (us.map opT)) k).isSome = true) : ∃ d ∈ us, d.kd = 1 ∧ d.ky = k := by
  rw [look_tabOf] at h
  cases e : pubs (us.map opT) k with
  | none => rw [e] at h; cases h
  | some v =>
    obtain ⟨vs, d, bs, e2, h1, h2, -⟩ := pubs_split e
    exact ⟨d, by rw [e2]; simp, h1, h2⟩
theorem look_more {us vs ws : List Cl} {k : Int} (e : us = vs ++ ws) (h : (look (tabOf (vs.map opT)) k).isSome = true) : (look (tabOf (us.map opT)) k).isSome = true := by
  obtain ⟨d, hd, h1, h2⟩ := look_pub h
  exact pub_look (by rw [e]; simp [hd]) h1 h2
theorem zip_look {us : List Cl} {c : Cl} {k : Int} (h : c.R.r.keys.zip c.R.r.vals = tabOf (us.map opT)) (hl : c.R.r.keys.length = c.R.r.vals.length) : k ∈ c.R.r.keys ↔ (look (tabOf (us.map opT)) k).isSome = true := by
  constructor
  · intro hk
    obtain ⟨v, hv⟩ := zip_key hl hk
    rw [h] at hv
    rw [look_rise (rise_tabOf _) hv]; rfl
  · intro hs
    cases e : look (tabOf (us.map opT)) k with
    | none => rw [e] at hs; cases hs
    | some v =>
      have := look_mem e
      rw [← h] at this
      exact (List.of_mem_zip this).1
theorem right_len3 {c : Cl} (h : rightReplyB c.kd c.R.r = true) (hk : c.kd = 3) : c.R.r.keys.length = c.R.r.vals.length := by
  unfold rightReplyB at h
  rw [if_pos hk] at h
  simp only [Bool.and_eq_true, decide_eq_true_eq] at h
  exact h.1.2
/-- What a call sees is there. -/
theorem finds_look {us : List Cl} {d : Cl} {k : Int} (h : doR (tabOf (us.map opT)) (opT d) = repT d) (hk : d.kd = 1 ∨ d.kd = 2 ∨ d.kd = 3) (hr : rightReplyB d.kd d.R.r = true) (hf : findsB d k = true) : (look (tabOf (us.map opT)) k).isSome = true := by
  unfold findsB at hf
  rcases hk with hk | hk | hk
  · rw [if_neg (by omega)] at hf
    simp only [hk, Bool.and_eq_true, decide_eq_true_eq, beq_iff_eq] at hf
    have := rep1 h hk
    rw [hf.1, hf.2] at this
    cases e : look (tabOf (us.map opT)) k with
    | none => rw [e] at this; simp at this
    | some v => rfl
  · rw [if_neg (by omega)] at hf
    simp only [hk, Bool.and_eq_true, decide_eq_true_eq, beq_iff_eq] at hf
    have := (rep2 h hk).1
    rw [hf.1, hf.2] at this
    simpa using this.symm
  · rw [if_pos hk] at hf
    exact (zip_look (rep3 h hk) (right_len3 hr hk)).1 (of_decide_eq_true hf)
/-- What it misses is not. -/
theorem misses_look {us : List Cl} {c : Cl} {k : Int} (h : doR (tabOf (us.map opT)) (opT c) = repT c) (hk : c.kd = 1 ∨ c.kd = 2 ∨ c.kd = 3) (hr : rightReplyB c.kd c.R.r = true) (hm : missesB c k = true) : look (tabOf (us.map opT)) k = none := by
  unfold missesB findsB at hm
  rcases hk with hk | hk | hk
  · rw [if_neg (by omega)] at hm
    simp only [hk, Bool.and_eq_true, Bool.or_eq_true, decide_eq_true_eq, Bool.not_eq_true', Bool.and_eq_false_iff] at hm
    have hky : c.ky = k := by rcases hm.1 with h | h; omega; exact h
    have h1 := rep1 h hk
    rw [hky] at h1
    have hok : c.R.r.ok = true := by
      rcases hm.2 with h | h
      · simp [hky] at h
      · cases ho : c.R.r.ok
        · rw [ho] at h; simp at h
        · rfl
    rw [hok] at h1
    simpa using h1.symm
  · rw [if_neg (by omega)] at hm
    simp only [hk, Bool.and_eq_true, Bool.or_eq_true, decide_eq_true_eq, Bool.not_eq_true', Bool.and_eq_false_iff] at hm
    have hky : c.ky = k := by rcases hm.1 with h | h; omega; exact h
    have h1 := (rep2 h hk).1
    rw [hky] at h1
    have hok : c.R.r.ok = false := by
      rcases hm.2 with h | h
      · simp [hky] at h
      · cases ho : c.R.r.ok
        · rfl
        · rw [ho] at h; simp at h
    rw [hok] at h1
    simpa using h1.symm
  · rw [if_pos hk] at hm
    simp only [Bool.and_eq_true, Bool.not_eq_true', decide_eq_false_iff_not] at hm
    have := (zip_look (k := k) (rep3 h hk) (right_len3 hr hk)).2
    cases e : look (tabOf (us.map opT)) k with
    | none => rfl
    | some v => exact absurd (this (by rw [e]; rfl)) hm.2
/-- What must stand ahead stands ahead. -/
theorem Val.prec {cs L us bs : List Cl} {c d : Cl} (h : Val cs L) (hk : ∀ c ∈ cs, c.kd = 1 ∨ c.kd = 2 ∨ c.kd = 3) (hr : ∀ c ∈ cs, rightReplyB c.kd c.R.r = true) (e : L = us ++ c :: bs) (hd : d ∈ us) : precB c d = false := by
  have hcm : c ∈ cs := h.sub c (by rw [e]; simp)
  have hdm : d ∈ cs := h.sub d (by rw [e]; simp [hd])
  obtain ⟨vs, ws, e2⟩ := List.append_of_mem hd
  have hrd := h.rep (us := vs) (c := d) (bs := ws ++ c :: bs) (by rw [e, e2]; simp)
  have hrc := h.rep e
  cases hp : precB c d with
  | false => rfl
  | true =>
    exfalso
    unfold precB at hp
    simp only [Bool.or_eq_true, Bool.and_eq_true, decide_eq_true_eq] at hp
    rcases hp with (hp | ⟨h1, h2⟩) | ⟨h1, h2⟩
    · exact (h.clk e hd).2 hp
    · have h3 := look_more (ws := d :: ws) e2 (finds_look hrd (hk d hdm) (hr d hdm) h2)
      obtain ⟨h4, h5⟩ := makes_iff.1 h1
      have := rep1 hrc h4
      rw [h5] at this
      cases e3 : look (tabOf (us.map opT)) c.ky with
      | none => rw [e3] at h3; cases h3
      | some v => rw [e3] at this; cases this
    · obtain ⟨h4, h5⟩ := makes_iff.1 h1
      have h3 := pub_look (k := d.ky) hd h4 rfl
      rw [misses_look hrc (hk c hcm) (hr c hcm) h2] at h3
      cases h3
/-- The one that made a key's value. -/
theorem Val.maker {cs L us bs : List Cl} (h : Val cs L) (e : L = us ++ bs) {k : Int} {v : ByteArray} (hl : look (tabOf (us.map opT)) k = some v) : ∃ d ∈ us, makesB d = true ∧ d.ky = k ∧ d.v = v := by
  rw [look_tabOf] at hl
  obtain ⟨vs, d, ws, e2, h1, h2, h3, h4⟩ := pubs_split hl
  refine ⟨d, by rw [e2]; simp, makes_iff.2 ⟨h1, ?_⟩, h2, h3⟩
  rw [rep1 (h.rep (us := vs) (c := d) (bs := ws ++ bs) (by rw [e, e2]; simp)) h1, h2]
  cases e3 : look (tabOf (vs.map opT)) k with
  | none => rfl
  | some u =>
    obtain ⟨d', hd', q⟩ := look_pub (us := vs) (k := k) (by rw [e3]; rfl)
    exact absurd q (h4 d' hd')
theorem Val.one {cs L : List Cl} (h : Val cs L) {c d : Cl} (hc : c ∈ L) (hd : d ∈ L) (h1 : makesB c = true) (h2 : makesB d = true) (hk : c.ky = d.ky) : c = d := by
  have key : ∀ {us bs : List Cl} {c d : Cl}, L = us ++ c :: bs → d ∈ us → makesB c = true → makesB d = true → c.ky = d.ky → False := fun {us bs c d} e hd h1 h2 hk => by
    obtain ⟨a1, a2⟩ := makes_iff.1 h1
    obtain ⟨b1, b2⟩ := makes_iff.1 h2
    have h3 := pub_look (k := c.ky) hd b1 hk.symm
    have h4 := rep1 (h.rep e) a1
    rw [a2] at h4
    cases e3 : look (tabOf (us.map opT)) c.ky with
    | none => rw [e3] at h3; cases h3
    | some v => rw [e3] at h4; cases h4
  obtain ⟨us, bs, e⟩ := List.append_of_mem hc
  rw [e] at hd
  rcases List.mem_append.1 hd with hd | hd
  · exact (key e hd h1 h2 hk).elim
  · rcases List.mem_cons.1 hd with hd | hd
    · exact hd.symm
    · obtain ⟨vs, ws, e2⟩ := List.append_of_mem hd
      exact (key (us := us ++ c :: vs) (bs := ws) (c := d) (d := c) (by rw [e, e2]; simp) (by simp) h2 h1 hk.symm).elim
theorem made_some (q : Int) : ∀ (cs : List Cl) (f : Mk), ((f q).isSome = true ∨ ∃ c ∈ cs, makesB c = true ∧ c.ky = q) → ((cs.foldl (fun f c => if makesB c then (fun q => if q = c.ky then some c else f q) else f) f) q).isSome = true
  | [], f, h => by
    rcases h with h | ⟨c, hc, -⟩
    · exact h
    · simp at hc
  | a :: l, f, h => by
    rw [List.foldl_cons]
    refine made_some q l _ ?_
    by_cases hm : makesB a = true
    · rw [if_pos hm]
      by_cases hq : q = a.ky
      · left; simp [hq]
      · rcases h with h | ⟨c, hc, h1, h2⟩
        · left; simpa [hq] using h
        · rcases List.mem_cons.1 hc with rfl | hc
          · exact absurd h2.symm hq
          · exact Or.inr ⟨c, hc, h1, h2⟩
    · rw [if_neg hm]
      rcases h with h | ⟨c, hc, h1, h2⟩
      · exact Or.inl h
      · rcases List.mem_cons.1 hc with rfl | hc
        · exact absurd h1 hm
        · exact Or.inr ⟨c, hc, h1, h2⟩
theorem Val.has {cs L us bs : List Cl} (h : Val cs L) (ha : ∀ c ∈ cs, c ∈ L) (e : L = us ++ bs) {k : Int} {v : ByteArray} (hl : look (tabOf (us.map opT)) k = some v) : hasB (madeX cs) k v = true := by
  obtain ⟨d, hd, h1, h2, h3⟩ := h.maker e hl
  have hdL : d ∈ L := by rw [e]; simp [hd]
  have hs := made_some k cs (fun _ => none) (Or.inr ⟨d, h.sub d hdL, h1, h2⟩)
  unfold hasB
  cases e2 : madeX cs k with
  | none => unfold madeX at e2; rw [e2] at hs; cases hs
  | some c =>
    obtain ⟨q1, q2, q3⟩ := madeX_is e2
    have := h.one (ha c q1) hdL q2 h1 (q3.trans h2.symm)
    subst this
    simp [h3]
/-- Each answer can be told. -/
theorem Val.possible {cs L : List Cl} (h : Val cs L) (hk : ∀ c ∈ cs, c.kd = 1 ∨ c.kd = 2 ∨ c.kd = 3) (ha : ∀ c ∈ cs, c ∈ L) : possibleB (madeX cs) cs = true := by
  unfold possibleB
  rw [List.all_eq_true]
  intro c hc
  obtain ⟨us, bs, e⟩ := List.append_of_mem (ha c hc)
  have hrep := h.rep e
  unfold canTellB
  rcases hk c hc with k1 | k2 | k3
  · rw [if_pos k1]
    have := rep1 hrep k1
    cases ho : c.R.r.ok with
    | true => exact made_some c.ky cs (fun _ => none) (Or.inr ⟨c, hc, makes_iff.2 ⟨k1, ho⟩, rfl⟩)
    | false =>
      rw [ho] at this
      cases e2 : look (tabOf (us.map opT)) c.ky with
      | none => rw [e2] at this; simp at this
      | some v =>
        obtain ⟨d, hd, h1, h2, -⟩ := h.maker (us := us) (bs := c :: bs) e e2
        exact made_some c.ky cs (fun _ => none) (Or.inr ⟨d, h.sub d (by rw [e]; simp [hd]), h1, h2⟩)
  · rw [if_neg (by omega), if_pos k2]
    obtain ⟨q1, q2⟩ := rep2 hrep k2
    cases ho : c.R.r.ok with
    | false => rfl
    | true =>
      rw [ho] at q1
      cases e2 : look (tabOf (us.map opT)) c.ky with
      | none => rw [e2] at q1; simp at q1
      | some v =>
        rw [e2] at q2
        simp only [Option.getD_some] at q2
        rw [q2, h.has ha (us := us) (bs := c :: bs) e e2]; rfl
  · rw [if_neg (by omega), if_neg (by omega), List.all_eq_true]
    intro p hp
    rw [rep3 hrep k3] at hp
    exact h.has ha (us := us) (bs := c :: bs) e (look_rise (rise_tabOf _) (show (p.1, p.2) ∈ _ from hp))
/-- AN ORDER THAT IS ONE KEEPS WHAT MUST STAND AHEAD OF WHAT. -/
theorem Val.seq {cs L : List Cl} (h : Val cs L) (hk : ∀ c ∈ cs, c.kd = 1 ∨ c.kd = 2 ∨ c.kd = 3) (hr : ∀ c ∈ cs, rightReplyB c.kd c.R.r = true) (ha : ∀ c ∈ cs, c ∈ L) : Seq cs L := by
  refine ⟨?_, ha, h.sub⟩
  rw [List.pairwise_iff_getElem]
  intro i j hi hj hij
  have e : L = L.take j ++ L[j] :: L.drop (j + 1) := by rw [List.getElem_cons_drop]; exact (List.take_append_drop j L).symm
  refine h.prec hk hr e ?_
  rw [List.mem_take_iff_getElem]
  exact ⟨i, by omega, rfl⟩
end Go.Proofs.YtihicdbplmdjiaaGreat
