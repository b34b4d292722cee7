import Derived.Test.YtihicdbplmdjiaaQC4J
namespace Go.Proofs.Ytihicdbplmdjiaa
set_option linter.unusedVariables false
set_option linter.unusedSimpArgs false

abbrev Kv := Int × ByteArray
abbrev OpT := Int × Int × ByteArray
structure RepT where
  ok : Bool
  val : ByteArray
  L : List Kv
def look (t : List Kv) (k : Int) : Option ByteArray := (t.find? (fun e => e.1 == k)).map Prod.snd
def insK : List Kv → Int → ByteArray → List Kv
  | [], k, v => [(k, v)]
  | e :: r, k, v => if e.1 < k then e :: insK r k v else (k, v) :: e :: r

/-! ### the plain map -/
def doT (tab : List Kv) (o : OpT) : List Kv := if o.1 = 1 then (match look tab o.2.1 with | some _ => tab | none => insK tab o.2.1 o.2.2) else tab
def doR (tab : List Kv) (o : OpT) : RepT :=
  if o.1 = 1 then ⟨(look tab o.2.1).isNone, ⟨#[]⟩, []⟩
  else if o.1 = 2 then ⟨(look tab o.2.1).isSome, (look tab o.2.1).getD ⟨#[]⟩, []⟩
  else ⟨true, ⟨#[]⟩, tab⟩
def tabOf (os : List OpT) : List Kv := os.foldl doT []
def pubs (os : List OpT) (k : Int) : Option ByteArray := (os.find? (fun o => o.1 == 1 && o.2.1 == k)).map (fun o => o.2.2)
def Rise (t : List Kv) : Prop := t.Pairwise (fun a b => a.1 < b.1)

theorem look_cons (e : Kv) (r : List Kv) (k : Int) : look (e :: r) k = if e.1 = k then some e.2 else look r k := by
  unfold look
  rw [List.find?_cons]
  by_cases h : e.1 = k
  · simp [h]
  · have : (e.1 == k) = false := by simp [h]
    rw [this, if_neg h]
theorem look_ins (t : List Kv) (k : Int) (v : ByteArray) (k' : Int) : look (insK t k v) k' = if k = k' then some v else look t k' := by
  induction t with
  | nil => unfold insK; rw [look_cons]
  | cons e r ih =>
    unfold insK
    by_cases h : e.1 < k
    · rw [if_pos h, look_cons, ih, look_cons]
      by_cases h2 : e.1 = k'
      · rw [if_pos h2, if_pos h2, if_neg (by omega)]
      · rw [if_neg h2, if_neg h2]
    · rw [if_neg h, look_cons]
theorem mem_ins {t : List Kv} {k : Int} {v : ByteArray} {x : Kv} (h : x ∈ insK t k v) : x = (k, v) ∨ x ∈ t := by
  induction t with
  | nil => unfold insK at h; simpa using h
  | cons e r ih =>
    unfold insK at h
    split at h
    · rcases List.mem_cons.1 h with h | h
      · exact Or.inr (by rw [h]; exact List.mem_cons_self)
      · rcases ih h with h | h
        · exact Or.inl h
        · exact Or.inr (List.mem_cons_of_mem _ h)
    · rcases List.mem_cons.1 h with h | h
      · exact Or.inl h
      · exact Or.inr h
theorem look_none_mem {t : List Kv} {k : Int} (h : look t k = none) : ∀ e ∈ t, e.1 ≠ k := by
  induction t with
  | nil => intro e he; cases he
  | cons x r ih =>
    rw [look_cons] at h
    intro e he
    split at h
    · cases h
    · rcases List.mem_cons.1 he with rfl | he
      · assumption
      · exact ih h e he
theorem rise_ins {t : List Kv} (h : Rise t) {k : Int} (hn : look t k = none) (v : ByteArray) : Rise (insK t k v) := by
  induction t with
  | nil => unfold insK; exact List.pairwise_singleton _ _
  | cons e r ih =>
    have hne := look_none_mem hn e List.mem_cons_self
    rw [look_cons, if_neg hne] at hn
    have hp := List.pairwise_cons.1 h
    unfold insK
    split
    · refine List.pairwise_cons.2 ⟨fun x hx => ?_, ih hp.2 hn⟩
      rcases mem_ins hx with rfl | hx
      · assumption
      · exact hp.1 x hx
    · rename_i hlt
      refine List.pairwise_cons.2 ⟨fun x hx => ?_, h⟩
      rcases List.mem_cons.1 hx with rfl | hx
      · show k < x.1; omega
      · have := hp.1 x hx; show k < x.1; omega
theorem look_mem {t : List Kv} {k : Int} {v : ByteArray} (h : look t k = some v) : (k, v) ∈ t := by
  induction t with
  | nil => cases h
  | cons e r ih =>
    rw [look_cons] at h
    split at h
    · rename_i e1; cases h; rw [← e1]; exact List.mem_cons_self
    · exact List.mem_cons_of_mem _ (ih h)
theorem look_of_lt {e : Kv} {r : List Kv} (h : Rise (e :: r)) : look r e.1 = none := by
  cases hl : look r e.1 with
  | none => rfl
  | some v =>
    have := (List.pairwise_cons.1 h).1 _ (look_mem hl)
    exact absurd this (Int.lt_irrefl _)
theorem rise_ext : ∀ {t t' : List Kv}, Rise t → Rise t' → (∀ k, look t k = look t' k) → t = t'
  | [], [], _, _, _ => rfl
  | [], e :: r, _, _, h => by have := h e.1; rw [look_cons, if_pos rfl] at this; cases this
  | e :: r, [], _, _, h => by have := h e.1; rw [look_cons, if_pos rfl] at this; cases this
  | e :: r, e' :: r', h1, h2, h => by
    have p1 := List.pairwise_cons.1 h1
    have p2 := List.pairwise_cons.1 h2
    have hk : e.1 = e'.1 := by
      rcases Int.lt_trichotomy e.1 e'.1 with hlt | heq | hgt
      · have := h e.1
        rw [look_cons, if_pos rfl] at this
        have hm := look_mem this.symm
        rcases List.mem_cons.1 hm with hm | hm
        · have : e.1 = e'.1 := by rw [← hm]
          exact this
        · have := p2.1 _ hm
          simp only at this
          omega
      · exact heq
      · have := h e'.1
        rw [look_cons (e := e'), if_pos rfl] at this
        have hm := look_mem this
        rcases List.mem_cons.1 hm with hm | hm
        · have : e'.1 = e.1 := by rw [← hm]
          exact this.symm
        · have := p1.1 _ hm
          simp only at this
          omega
    have hv : e.2 = e'.2 := by
      have := h e.1
      rw [look_cons, if_pos rfl, look_cons, if_pos hk.symm] at this
      exact Option.some.inj this
    have he : e = e' := Prod.ext hk hv
    subst he
    congr 1
    refine rise_ext p1.2 p2.2 (fun k => ?_)
    by_cases hke : e.1 = k
    · subst hke; rw [look_of_lt h1, look_of_lt h2]
    · have := h k
      rw [look_cons, if_neg hke, look_cons, if_neg hke] at this
      exact this

theorem pubs_cons (o : OpT) (os : List OpT) (k : Int) : pubs (o :: os) k = if o.1 = 1 ∧ o.2.1 = k then some o.2.2 else pubs os k := by
  unfold pubs
  rw [List.find?_cons]
  by_cases h : o.1 = 1 ∧ o.2.1 = k
  · have : (o.1 == 1 && o.2.1 == k) = true := by simp [h.1, h.2]
    rw [this, if_pos h]; rfl
  · have : (o.1 == 1 && o.2.1 == k) = false := by
      cases hb : (o.1 == 1 && o.2.1 == k) with
      | false => rfl
      | true => simp at hb; exact absurd hb h
    rw [this, if_neg h]
theorem look_doT (t : List Kv) (o : OpT) (k : Int) : look (doT t o) k = if o.1 = 1 ∧ o.2.1 = k then (match look t k with | some x => some x | none => some o.2.2) else look t k := by
  unfold doT
  by_cases h1 : o.1 = 1
  · rw [if_pos h1]
    cases hl : look t o.2.1 with
    | some x =>
      simp only
      by_cases h2 : o.2.1 = k
      · rw [if_pos ⟨h1, h2⟩, ← h2, hl]
      · rw [if_neg (fun h => h2 h.2)]
    | none =>
      simp only
      rw [look_ins]
      by_cases h2 : o.2.1 = k
      · rw [if_pos h2, if_pos ⟨h1, h2⟩, ← h2, hl]
      · rw [if_neg h2, if_neg (fun h => h2 h.2)]
  · rw [if_neg h1, if_neg (fun h => h1 h.1)]
theorem look_fold : ∀ (os : List OpT) (t : List Kv) (k : Int), look (os.foldl doT t) k = match look t k with | some x => some x | none => pubs os k
  | [], t, k => by cases h : look t k <;> simp [pubs, h]
  | o :: os, t, k => by
    rw [List.foldl_cons, look_fold os, look_doT, pubs_cons]
    by_cases h : o.1 = 1 ∧ o.2.1 = k
    · rw [if_pos h, if_pos h]
      cases look t k <;> rfl
    · rw [if_neg h, if_neg h]
theorem look_tabOf (os : List OpT) (k : Int) : look (tabOf os) k = pubs os k := look_fold os [] k
theorem rise_doT {t : List Kv} (h : Rise t) (o : OpT) : Rise (doT t o) := by
  unfold doT
  split
  · split
    · exact h
    · rename_i hn; exact rise_ins h hn _
  · exact h
theorem rise_fold : ∀ (os : List OpT) {t : List Kv}, Rise t → Rise (os.foldl doT t)
  | [], _, h => h
  | o :: os, _, h => rise_fold os (rise_doT h o)
theorem rise_tabOf (os : List OpT) : Rise (tabOf os) := rise_fold os List.Pairwise.nil
theorem tabOf_snoc (os : List OpT) (o : OpT) : tabOf (os ++ [o]) = doT (tabOf os) o := by unfold tabOf; rw [List.foldl_append]; rfl

end Go.Proofs.Ytihicdbplmdjiaa

namespace Go.Proofs.Ytihicdbplmdjiaa
set_option linter.unusedVariables false
set_option linter.unusedSimpArgs false

/-! ### each call of a history was answered rightly -/
theorem nodup_snd {c : Int} {i : Nat} : ∀ {l : List (Int × Nat)}, (l.map (·.1)).Nodup → l.lookup c = some i → ∀ p ∈ l, p.1 = c → p.2 = i
  | [], _, h => by simp at h
  | (a, j) :: l, hn, h => by
    intro p hp hpc
    rw [List.lookup_cons] at h
    simp only [List.map_cons, List.nodup_cons] at hn
    by_cases e : c = a
    · subst e
      simp at h
      rcases List.mem_cons.1 hp with rfl | hp
      · exact h
      · exact absurd (List.mem_map_of_mem (f := (·.1)) hp) (by rw [hpc]; exact hn.1)
    · rw [show (c == a) = false by simpa using e] at h
      rcases List.mem_cons.1 hp with rfl | hp
      · exact absurd hpc.symm e
      · exact nodup_snd hn.2 h p hp hpc
theorem run_right (h : List Mo) : ∀ k s, runO h k = some s → ∀ q c, s.cs[q]? = some c → (∀ p ∈ s.op, p.2 ≠ q) → rightReplyB c.kd c.R.r = true
  | 0, s, e => by cases e; intro q c hq; simp at hq
  | k + 1, s', e => by
    cases e0 : runO h k with
    | none => rw [runO_none e0 1] at e; cases e
    | some s =>
      have ih := run_right h k s e0
      have hok := stOk_run h k s e0
      cases em : h[k]? with
      | none =>
        have : runO h (k + 1) = some s := by
          show (runO h k).bind _ = _
          rw [e0]; show (match h[k]? with | none => some s | some m => stepO k m s) = _; rw [em]
        rw [this] at e; cases e
        exact ih
      | some m =>
        rw [runO_step e0 em] at e
        unfold stepO at e
        split at e
        · split at e
          · cases e
            intro q c hq hp
            by_cases hql : q < s.cs.length
            · rw [List.getElem?_append_left hql] at hq
              exact ih q c hq (fun p hpm => hp p (List.mem_cons_of_mem _ hpm))
            · by_cases he : q = s.cs.length
              · subst he
                exact absurd rfl (hp (m.c, s.cs.length) List.mem_cons_self)
              · rw [List.getElem?_eq_none (by simp; omega)] at hq
                cases hq
          · cases e
        · next i hl =>
          split at e
          · cases e
          · next c0 hc0 =>
            split at e
            · next hcond =>
              cases e
              intro q c hq hp
              rw [List.getElem?_set] at hq
              by_cases he : i = q
              · subst he
                rw [if_pos rfl] at hq
                split at hq
                · cases hq
                  simp only [Bool.and_eq_true] at hcond
                  obtain ⟨⟨-, hs⟩, hr⟩ := hcond
                  have hs2 := of_decide_eq_true hs
                  show rightReplyB c0.kd m.R.r = true
                  rw [← hs2.1]
                  exact hr
                · cases hq
              · rw [if_neg he] at hq
                refine ih q c hq (fun p hpm hpq => ?_)
                by_cases hpc : p.1 = m.c
                · have := nodup_snd hok.nodup hl p hpm hpc
                  omega
                · exact hp p (List.mem_filter.2 ⟨hpm, by simpa using hpc⟩) hpq
            · cases e
theorem calls_right {h : List Mo} {cs : List Cl} (e : callsX h = some cs) : ∀ c ∈ cs, rightReplyB c.kd c.R.r = true := by
  unfold callsX at e
  split at e
  · cases e
  · cases e0 : runO h h.length with
    | none => rw [e0] at e; cases e
    | some s =>
      rw [e0] at e
      simp only [Option.bind_some] at e
      split at e
      · next hop =>
        cases e
        intro c hc
        obtain ⟨q, hq⟩ := List.getElem?_of_mem hc
        exact run_right h _ s e0 q c hq (fun p hp => by rw [hop] at hp; cases hp)
      · cases e
end Go.Proofs.Ytihicdbplmdjiaa

namespace Go.Proofs.Ytihicdbplmdjiaa
set_option linter.unusedVariables false
set_option linter.unusedSimpArgs false

/-! ### an order of calls gives the plain map's answers -/
theorem ba_inj {a b : ByteArray} (h : a.toList = b.toList) : a = b := by
  rw [ByteArray.toList_eq, ByteArray.toList_eq] at h
  exact ByteArray.ext (Array.toList_inj.1 h)
theorem ba_empty {a : ByteArray} (h : emB a = true) : a = ⟨#[]⟩ := by
  unfold emB at h
  rw [List.isEmpty_iff] at h
  exact ba_inj (h.trans (by rw [ByteArray.toList_eq]))
theorem made_is (q : Int) (c : Cl) : ∀ (cs : List Cl) (f : Mk), (cs.foldl (fun f c => if makesB c then (fun q => if q = c.ky then some c else f q) else f) f) q = some c → (c ∈ cs ∧ makesB c = true ∧ c.ky = q) ∨ f q = some c
  | [], f, h => Or.inr h
  | a :: l, f, h => by
    rw [List.foldl_cons] at h
    rcases made_is q c l _ h with h1 | h1
    · exact Or.inl ⟨List.mem_cons_of_mem _ h1.1, h1.2⟩
    · by_cases hm : makesB a = true
      · rw [if_pos hm] at h1
        by_cases hq : q = a.ky
        · simp only [if_pos hq, Option.some.injEq] at h1
          subst h1
          exact Or.inl ⟨List.mem_cons_self, hm, hq.symm⟩
        · simp only [if_neg hq] at h1
          exact Or.inr h1
      · rw [if_neg hm] at h1
        exact Or.inr h1
theorem madeX_is {cs : List Cl} {q : Int} {c : Cl} (h : madeX cs q = some c) : c ∈ cs ∧ makesB c = true ∧ c.ky = q := by
  rcases made_is q c cs _ h with h | h
  · exact h
  · cases h
theorem makes_iff {c : Cl} : makesB c = true ↔ c.kd = 1 ∧ c.R.r.ok = true := by unfold makesB; simp
/-- The calls in an order: none that must stand ahead of another stands behind it. -/
structure Seq (cs L : List Cl) : Prop where
  pw : L.Pairwise (fun a b => precB b a = false)
  all : ∀ c ∈ cs, c ∈ L
  sub : ∀ c ∈ L, c ∈ cs
theorem Seq.ahead {cs : List Cl} {us bs : List Cl} {c d : Cl} (h : Seq cs (us ++ c :: bs)) (hd : d ∈ cs) (hp : precB d c = true) (hne : d ≠ c) : d ∈ us := by
  rcases List.mem_append.1 (h.all d hd) with h1 | h1
  · exact h1
  · rcases List.mem_cons.1 h1 with h1 | h1
    · exact absurd h1 hne
    · have := (List.pairwise_cons.1 (List.pairwise_append.1 h.pw).2.1).1 d h1
      rw [hp] at this; cases this
theorem Seq.later {cs : List Cl} {us bs : List Cl} {c d : Cl} (h : Seq cs (us ++ c :: bs)) (hd : d ∈ us) : precB c d = false :=
  (List.pairwise_append.1 h.pw).2.2 d hd c List.mem_cons_self
abbrev opT (c : Cl) : OpT := (c.kd, c.ky, c.v)
theorem makes_misses {c : Cl} (h : makesB c = true) : missesB c c.ky = true := by
  obtain ⟨h1, h2⟩ := makes_iff.1 h
  unfold missesB findsB
  simp [h1, h2]
/-- Two calls that make one key: neither can stand first. -/
theorem prec_makes {c d : Cl} (h1 : makesB c = true) (h2 : makesB d = true) (h : c.ky = d.ky) : precB c d = true := by
  unfold precB
  have := makes_misses h1
  rw [h2, ← h, this]; simp
theorem prec_finds {c d : Cl} (h1 : makesB c = true) (h2 : findsB d c.ky = true) : precB c d = true := by unfold precB; rw [h1, h2]; simp
theorem prec_misses {c d : Cl} (h1 : makesB d = true) (h2 : missesB c d.ky = true) : precB c d = true := by unfold precB; rw [h1, h2]; simp
/-- A Publish that is not Ok: the one that made its key stands ahead. -/
theorem Seq.not_ok {cs us bs : List Cl} {c : Cl} (h : Seq cs (us ++ c :: bs)) (hp : possibleB (madeX cs) cs = true) (hk : c.kd = 1) (ho : c.R.r.ok = false) : ∃ d ∈ us, makesB d = true ∧ d.ky = c.ky := by
  have hc := List.all_eq_true.1 hp c (h.sub c (by simp))
  unfold canTellB at hc
  rw [if_pos hk] at hc
  obtain ⟨d, hd⟩ := Option.isSome_iff_exists.1 hc
  obtain ⟨h1, h2, h3⟩ := madeX_is hd
  refine ⟨d, h.ahead h1 (prec_finds h2 ?_) (fun e => ?_), h2, h3⟩
  · unfold findsB; rw [h3]; simp [hk, ho]
  · subst e; rw [(makes_iff.1 h2).2] at ho; cases ho
theorem pubs_split {L : List Cl} {k : Int} {v : ByteArray} (h : pubs (L.map opT) k = some v) : ∃ us c bs, L = us ++ c :: bs ∧ c.kd = 1 ∧ c.ky = k ∧ c.v = v ∧ ∀ d ∈ us, ¬ (d.kd = 1 ∧ d.ky = k) := by
  unfold pubs at h
  rw [List.find?_map] at h
  simp only [Option.map_map, Option.map_eq_some_iff, Function.comp] at h
  obtain ⟨c, hc, e⟩ := h
  obtain ⟨h1, us, bs, h2, h3⟩ := List.find?_eq_some_iff_append.1 hc
  refine ⟨us, c, bs, h2, ?_, ?_, e, fun d hd => ?_⟩
  · simp at h1; exact h1.1
  · simp at h1; exact h1.2
  · have := h3 d hd
    intro hh
    simp [hh.1, hh.2] at this
theorem pubs_none {L : List Cl} {k : Int} (h : pubs (L.map opT) k = none) : ∀ d ∈ L, ¬ (d.kd = 1 ∧ d.ky = k) := by
  unfold pubs at h
  rw [List.find?_map] at h
  simp only [Option.map_eq_none_iff] at h
  intro d hd
  have := List.find?_eq_none.1 h d hd
  simpa using this
/-- The plain map, behind the first calls of an order: the keys that were made there, with their values. -/
theorem Seq.lk {cs us bs : List Cl} (h : Seq cs (us ++ bs)) (hp : possibleB (madeX cs) cs = true) {k : Int} {d : Cl} (hd : d ∈ us) (hm : makesB d = true) (hk : d.ky = k) : look (tabOf (us.map opT)) k = some d.v := by
  rw [look_tabOf]
  cases e : pubs (us.map opT) k with
  | none => exact absurd ⟨(makes_iff.1 hm).1, hk⟩ (pubs_none e d hd)
  | some v =>
    obtain ⟨a1, c, b1, e1, h1, h2, h3, h4⟩ := pubs_split e
    subst e1
    have h' : Seq cs (a1 ++ c :: (b1 ++ bs)) := by simpa using h
    cases ho : c.R.r.ok with
    | false =>
      obtain ⟨d', hd', hm', hk'⟩ := h'.not_ok hp h1 ho
      exact absurd ⟨(makes_iff.1 hm').1, hk'.trans h2⟩ (h4 d' hd')
    | true =>
      have hmc : makesB c = true := makes_iff.2 ⟨h1, ho⟩
      rcases List.mem_append.1 hd with hd | hd
      · exact absurd ⟨(makes_iff.1 hm).1, hk⟩ (h4 d hd)
      · rcases List.mem_cons.1 hd with hd | hd
        · rw [hd, h3]
        · have := (List.pairwise_cons.1 (List.pairwise_append.1 h'.pw).2.1).1 d (by simp [hd])
          rw [prec_makes hm hmc (hk.trans h2.symm)] at this
          cases this
theorem Seq.lkNone {cs us bs : List Cl} (h : Seq cs (us ++ bs)) (hp : possibleB (madeX cs) cs = true) {k : Int} (hn : ∀ d ∈ us, ¬ (makesB d = true ∧ d.ky = k)) : look (tabOf (us.map opT)) k = none := by
  rw [look_tabOf]
  cases e : pubs (us.map opT) k with
  | none => rfl
  | some v =>
    obtain ⟨a1, c, b1, e1, h1, h2, h3, h4⟩ := pubs_split e
    subst e1
    have h' : Seq cs (a1 ++ c :: (b1 ++ bs)) := by simpa using h
    cases ho : c.R.r.ok with
    | false =>
      obtain ⟨d', hd', hm', hk'⟩ := h'.not_ok hp h1 ho
      exact absurd ⟨hm', hk'.trans h2⟩ (hn d' (by simp [hd']))
    | true => exact absurd ⟨makes_iff.2 ⟨h1, ho⟩, h2⟩ (hn c (by simp))
/-- Behind the first calls of an order: a call that must stand ahead of what made the key sees it not. -/
theorem Seq.missed {cs us bs : List Cl} {c : Cl} (h : Seq cs (us ++ c :: bs)) {k : Int} (hm : missesB c k = true) : ∀ d ∈ us, ¬ (makesB d = true ∧ d.ky = k) := by
  rintro d hd ⟨h1, h2⟩
  have := h.later hd
  rw [prec_misses h1 (by rw [h2]; exact hm)] at this
  cases this
theorem rise_zip : ∀ {ks : List Int} {vs : List ByteArray}, riseB ks = true → Rise (ks.zip vs)
  | [], _, _ => List.Pairwise.nil
  | _ :: _, [], _ => List.Pairwise.nil
  | [a], v :: vs, _ => by simp [Rise]
  | a :: b :: l, v :: vs, h => by
    have h2 : decide (a < b) = true ∧ riseB (b :: l) = true := by unfold riseB at h; simpa using h
    have ih := rise_zip (vs := vs) h2.2
    refine List.pairwise_cons.2 ⟨fun x hx => ?_, ih⟩
    have hab := of_decide_eq_true h2.1
    cases vs with
    | nil => cases hx
    | cons v2 vs2 =>
      rcases List.mem_cons.1 hx with rfl | hx2
      · exact hab
      · have := (List.pairwise_cons.1 ih).1 x hx2
        show a < x.1
        have e : b < x.1 := this
        omega
theorem look_rise {t : List Kv} (h : Rise t) {k : Int} {v : ByteArray} (hm : (k, v) ∈ t) : look t k = some v := by
  induction t with
  | nil => cases hm
  | cons e r ih =>
    have hp := List.pairwise_cons.1 h
    rw [look_cons]
    rcases List.mem_cons.1 hm with rfl | hm
    · rw [if_pos rfl]
    · have := hp.1 _ hm
      rw [if_neg (by intro e1; simp only at this; omega)]
      exact ih hp.2 hm
theorem zip_key {ks : List Int} {vs : List ByteArray} {k : Int} (hl : ks.length = vs.length) (h : k ∈ ks) : ∃ v, (k, v) ∈ ks.zip vs := by
  obtain ⟨i, hi, rfl⟩ := List.getElem_of_mem h
  exact ⟨vs[i]'(hl ▸ hi), List.mem_of_getElem? (i := i) (by rw [List.getElem?_eq_getElem (by rw [List.length_zip]; omega), List.getElem_zip])⟩
abbrev repT (c : Cl) : RepT := ⟨c.R.r.ok, c.R.r.val, c.R.r.keys.zip c.R.r.vals⟩
/-- EACH CALL OF AN ORDER GETS THE PLAIN MAP'S ANSWER. -/
theorem Seq.reply {cs us bs : List Cl} {c : Cl} (h : Seq cs (us ++ c :: bs)) (hp : possibleB (madeX cs) cs = true) (hr : rightReplyB c.kd c.R.r = true) (hk : c.kd = 1 ∨ c.kd = 2 ∨ c.kd = 3) : doR (tabOf (us.map opT)) (opT c) = repT c := by
  have hc := List.all_eq_true.1 hp c (h.sub c (by simp))
  unfold canTellB at hc
  unfold rightReplyB noKeysB at hr
  unfold doR
  rcases hk with hk | hk | hk
  · have hks : c.R.r.keys = [] := by simp [hk] at hr; exact hr.2.1
    have hv : c.R.r.val = ⟨#[]⟩ := ba_empty (by simp [hk] at hr; simpa using hr.1)
    have e : repT c = ⟨c.R.r.ok, ⟨#[]⟩, []⟩ := by simp [repT, hks, hv]
    rw [e]
    simp only [hk, if_pos]
    cases ho : c.R.r.ok with
    | true =>
      have hm : makesB c = true := makes_iff.2 ⟨hk, ho⟩
      rw [h.lkNone hp (h.missed (makes_misses hm))]; rfl
    | false =>
      obtain ⟨d, hd, hm, hdk⟩ := h.not_ok hp hk ho
      rw [h.lk hp hd hm hdk]; rfl
  · have hks : c.R.r.keys = [] := by simp [hk] at hr; exact hr.2.1
    have e : repT c = ⟨c.R.r.ok, c.R.r.val, []⟩ := by simp [repT, hks]
    rw [e]
    simp only [hk]
    rw [if_neg (by decide), if_pos trivial]
    cases ho : c.R.r.ok with
    | true =>
      simp [hk, ho] at hc
      unfold hasB at hc
      cases hf : madeX cs c.ky with
      | none => rw [hf] at hc; cases hc
      | some d =>
        rw [hf] at hc
        have hdv : d.v = c.R.r.val := ba_inj (of_decide_eq_true hc)
        obtain ⟨h1, h2, h3⟩ := madeX_is hf
        have hd := h.ahead h1 (prec_finds h2 (by unfold findsB; simp [hk, ho, h3])) (fun e => by rw [e] at h2; have := (makes_iff.1 h2).1; omega)
        rw [h.lk hp hd h2 h3, hdv]; rfl
    | false =>
      have hv : c.R.r.val = ⟨#[]⟩ := ba_empty (by simp [hk, ho] at hr; simpa using hr.1)
      rw [h.lkNone hp (h.missed (by unfold missesB findsB; simp [hk, ho])), hv]; rfl
  · simp [hk] at hr
    obtain ⟨⟨⟨ho, hv⟩, hl⟩, hri⟩ := hr
    have hv2 : c.R.r.val = ⟨#[]⟩ := ba_empty (by simpa using hv)
    simp only [hk]
    rw [if_neg (by decide), if_neg (by decide)]
    have e : repT c = ⟨true, ⟨#[]⟩, c.R.r.keys.zip c.R.r.vals⟩ := by simp [repT, ho, hv2]
    rw [e]
    congr 1
    refine rise_ext (rise_tabOf _) (rise_zip hri) (fun k => ?_)
    by_cases hm : k ∈ c.R.r.keys
    · obtain ⟨v, hz⟩ := zip_key hl hm
      rw [look_rise (rise_zip hri) hz]
      rw [if_neg (by omega), if_neg (by omega)] at hc
      have hh := List.all_eq_true.1 hc _ hz
      unfold hasB at hh
      cases hf : madeX cs k with
      | none => simp [hf] at hh
      | some d =>
        simp only [hf] at hh
        have hdv : d.v = v := ba_inj (of_decide_eq_true hh)
        obtain ⟨h1, h2, h3⟩ := madeX_is hf
        have hd := h.ahead h1 (prec_finds h2 (by unfold findsB; simp [hk, h3, hm])) (fun e => by rw [e] at h2; have := (makes_iff.1 h2).1; omega)
        rw [h.lk hp hd h2 h3, hdv]
    · rw [h.lkNone hp (h.missed (by unfold missesB findsB; simp [hk, hm]))]
      cases hl2 : look (c.R.r.keys.zip c.R.r.vals) k with
      | none => rfl
      | some v => exact absurd (List.of_mem_zip (look_mem hl2)).1 hm
end Go.Proofs.Ytihicdbplmdjiaa
