import Derived.Test.YtihicdbplmdjiaaGreatQPlL0J
set_option linter.unusedVariables false
set_option linter.unusedSimpArgs false
namespace Go.Proofs.YtihicdbplmdjiaaGreat.Pl

def cg (s : St) (c : Nat) : Cl := s.cls.getD c cl0
theorem getD_set {l : List Cl} {i c : Nat} {x : Cl} (h : i < l.length) : (l.set i x).getD c cl0 = if c = i then x else l.getD c cl0 := by
  rw [List.getD_eq_getElem?_getD, List.getElem?_set]
  by_cases e : c = i
  · subst e; simp [h]
  · rw [if_neg (fun h => e h.symm), if_neg e, List.getD_eq_getElem?_getD]

def begOps (ms : List MomT) (c : Nat) : List OpT := (ms.filter (fun m => m.beg && m.c == c)).map MomT.op
def knw (o : OpT) : Bool := known o.1
def rest (c : Cl) : List OpT := if c.st = 0 then c.ops.filter knw else c.ops.tail.filter knw
def act1 (c : Cl) : Nat := if c.st = 0 then 0 else 1
def nBeg (ms : List MomT) : Nat := (ms.filter (fun m => m.beg)).length
def nEnd (ms : List MomT) : Nat := (ms.filter (fun m => !m.beg)).length

/-- The call that begins at i ends at k. -/
structure Ends (ms : List MomT) (i k : Nat) : Prop where
  lt : i < k
  hk : k < ms.length
  same : ∀ m m', ms[i]? = some m → ms[k]? = some m' → m'.c = m.c ∧ m'.beg = false ∧ m'.op = m.op
  none : ∀ j m m', i < j → j < k → ms[i]? = some m → ms[j]? = some m' → m'.c ≠ m.c

structure PInv (cl : List (List OpT)) (s : St) : Prop where
  len : s.cls.length = cl.length
  ok : StOk s
  lks : ∀ j, j < 8 → s.lkd j = true → ∃ c, c < cl.length ∧ (cg s c).st = 1 ∧ j < (cg s c).lk ∧ ∃ o r, (cg s c).ops = o :: r ∧ o.1 = 3
  hist : ∀ (i : Nat) (m : MomT), s.ms[i]? = some m → m.beg = true → (∃ k, Ends s.ms i k) ∨ ((cg s m.c).st ≠ 0 ∧ (∃ r, (cg s m.c).ops = m.op :: r) ∧ ∀ j m', i < j → s.ms[j]? = some m' → m'.c ≠ m.c)
  cnt : nBeg s.ms = nEnd s.ms + (s.cls.map act1).sum
  all : ∀ c l, cl[c]? = some l → l.filter knw = begOps s.ms c ++ rest (cg s c)
  who : ∀ (i : Nat) (m : MomT), s.ms[i]? = some m → m.c < cl.length

theorem filter_fromK (l : List OpT) : (fromK l).filter knw = l.filter knw := by
  induction l with
  | nil => rfl
  | cons o r ih =>
    unfold fromK at ih ⊢
    rw [List.dropWhile_cons]
    cases hk : known o.1 with
    | true => simp
    | false =>
      simp only [Bool.not_false, if_true]
      rw [ih, List.filter_cons, if_neg (by simp [knw, hk])]

theorem act_zero (cl : List (List OpT)) : ((cl.map (fun l => (⟨fromK l, 0, 0, rep0⟩ : Cl))).map act1).sum = 0 := by
  induction cl with
  | nil => rfl
  | cons a r ih => rw [List.map_cons, List.map_cons, List.sum_cons, ih]; rfl
theorem PInv.begin {cl : List (List OpT)} (hk : ∀ l ∈ cl, ∀ o ∈ l, In64 o.2.1) : PInv cl (begin0 cl) where
  len := by simp [begin0]
  ok := fun c hc => by obtain ⟨l, hl', rfl⟩ := List.mem_map.1 hc; exact clOk_begin l (hk l hl')
  lks := fun j _ h => by cases h
  hist := fun i m h => by simp [begin0] at h
  cnt := by
    have : ((begin0 cl).cls.map act1).sum = 0 := by
      exact act_zero cl
    rw [this]; rfl
  all := fun c l h => by
    have hc : cg (begin0 cl) c = ⟨fromK l, 0, 0, rep0⟩ := by
      unfold cg begin0
      simp [List.getElem?_map, h]
    rw [hc]
    show _ = [] ++ (fromK l).filter knw
    rw [filter_fromK]; rfl
  who := fun i m h => by simp [begin0] at h

theorem Ends.app {ms : List MomT} {i k : Nat} (h : Ends ms i k) (x : MomT) : Ends (ms ++ [x]) i k := by
  have hk := h.hk
  have hl := h.lt
  have e : ∀ j, j ≤ k → (ms ++ [x])[j]? = ms[j]? := fun j hj => List.getElem?_append_left (by omega)
  exact ⟨h.lt, by simp; omega, fun m m' h1 h2 => h.same m m' (by rw [← e i (by omega)]; exact h1) (by rw [← e k (by omega)]; exact h2), fun j m m' h1 h2 h3 h4 => h.none j m m' h1 h2 (by rw [← e i (by omega)]; exact h3) (by rw [← e j (by omega)]; exact h4)⟩
theorem app_get {ms : List MomT} {x m : MomT} {i : Nat} (h : (ms ++ [x])[i]? = some m) : ms[i]? = some m ∨ (i = ms.length ∧ m = x) := by
  rcases Nat.lt_or_ge i ms.length with e | e
  · rw [List.getElem?_append_left e] at h; exact Or.inl h
  · rw [List.getElem?_append_right e] at h
    rcases Nat.eq_or_lt_of_le e with e2 | e2
    · refine Or.inr ⟨e2.symm, ?_⟩
      rw [← e2] at h; simp at h; exact h.symm
    · rw [List.getElem?_eq_none (by simp; omega)] at h; cases h
theorem get_lt {ms : List MomT} {m : MomT} {i : Nat} (h : ms[i]? = some m) : i < ms.length := (List.getElem?_eq_some_iff.1 h).1
theorem begOps_app (ms : List MomT) (x : MomT) (c : Nat) : begOps (ms ++ [x]) c = begOps ms c ++ if x.beg && x.c == c then [x.op] else [] := by
  unfold begOps
  rw [List.filter_append, List.map_append]
  congr 1
  cases h : (x.beg && x.c == c) <;> simp [h]
theorem nBeg_app (ms : List MomT) (x : MomT) : nBeg (ms ++ [x]) = nBeg ms + if x.beg then 1 else 0 := by
  unfold nBeg; rw [List.filter_append, List.length_append]; cases h : x.beg <;> simp [h]
theorem nEnd_app (ms : List MomT) (x : MomT) : nEnd (ms ++ [x]) = nEnd ms + if x.beg then 0 else 1 := by
  unfold nEnd; rw [List.filter_append, List.length_append]; cases h : x.beg <;> simp [h]
theorem act_sum {l : List Cl} {i : Nat} {x : Cl} (h : i < l.length) : ((l.set i x).map act1).sum + act1 l[i] = (l.map act1).sum + act1 x := by
  have := sum_set (l := l.map act1) (i := i) (x := act1 x) (by simpa using h)
  rw [List.map_set]
  simpa using this

/-- A client's own record changes, the history stays. -/
theorem PInv.quiet {cl : List (List OpT)} {s : St} (h : PInv cl s) {i : Nat} (hi : i < s.cls.length) (x : Cl) (tab' : List Kv) (lkd' : Nat → Bool) (last' : Int) (hok : StOk ⟨tab', lkd', s.cls.set i x, last', s.ms⟩) (hst : s.cls[i].st = 1) (hx : x.st = 1 ∨ x.st = 2) (hops : x.ops = s.cls[i].ops)
    (hlk : ∀ j, j < 8 → lkd' j = true → ∃ c, c < cl.length ∧ ((s.cls.set i x).getD c cl0).st = 1 ∧ j < ((s.cls.set i x).getD c cl0).lk ∧ ∃ o r, ((s.cls.set i x).getD c cl0).ops = o :: r ∧ o.1 = 3) : PInv cl ⟨tab', lkd', s.cls.set i x, last', s.ms⟩ := by
  have hci : cg s i = s.cls[i] := by unfold cg; rw [List.getD_eq_getElem?_getD]; simp [hi]
  have hcg : ∀ c, cg ⟨tab', lkd', s.cls.set i x, last', s.ms⟩ c = if c = i then x else cg s c := fun c => getD_set hi
  refine ⟨by rw [← h.len]; simp, hok, hlk, ?_, ?_, ?_, h.who⟩
  · intro k m hm hb
    rcases h.hist k m hm hb with e | ⟨e1, ⟨r, e2⟩, e3⟩
    · exact Or.inl e
    · refine Or.inr ⟨?_, ⟨r, ?_⟩, e3⟩
      · rw [hcg]
        split
        · rcases hx with hx | hx <;> omega
        · exact e1
      · rw [hcg]
        split
        · rename_i e4; rw [hops, ← hci, ← e4]; exact e2
        · exact e2
  · have := act_sum (x := x) hi
    have hA : act1 s.cls[i] = 1 := by simp [act1, hst]
    have hB : act1 x = 1 := by unfold act1; rw [if_neg (by omega)]
    have hc := h.cnt
    show nBeg s.ms = nEnd s.ms + ((s.cls.set i x).map act1).sum
    omega
  · intro c l hl
    rw [h.all c l hl, hcg]
    split
    · rename_i e
      subst e
      rw [hci]
      unfold rest
      rw [if_neg (by omega), if_neg (by omega), hops]
    · rfl

theorem PInv.step {cl : List (List OpT)} {s : St} (h : PInv cl s) {i : Nat} (hi : i ∈ able s) (last : Int) : PInv cl (stepX { s with last := last } i) := by
  obtain ⟨hl, hc⟩ := able_mem hi
  have hok := (step_ok h.ok hi last).1
  have hcl := h.ok s.cls[i] (List.getElem_mem hl)
  have hci : cg s i = s.cls[i] := by unfold cg; rw [List.getD_eq_getElem?_getD]; simp [hl]
  obtain ⟨o, r, hop⟩ : ∃ o r, s.cls[i].ops = o :: r := by
    cases hop : s.cls[i].ops with
    | nil => simp [canGo, hop] at hc
    | cons o r => exact ⟨o, r, rfl⟩
  have hkn := hcl.first o r hop
  have hil : i < cl.length := by rw [← h.len]; exact hl
  have hstep := stepX_eq (s := { s with last := last }) (i := i) hl hop
  rw [hstep] at hok ⊢
  clear hstep
  by_cases h0 : s.cls[i].st = 0
  · -- it begins
    rw [if_pos h0] at hok ⊢
    have hcg : ∀ c, cg { s with last := last, ms := s.ms ++ [⟨i, true, o, rep0⟩], cls := s.cls.set i { s.cls[i] with st := 1 } } c = if c = i then { s.cls[i] with st := 1 } else cg s c := fun c => getD_set hl
    refine ⟨by rw [← h.len]; simp, hok, ?_, ?_, ?_, ?_, ?_⟩
    · intro j hj hlk
      obtain ⟨c, h1, h2, h3, h4⟩ := h.lks j hj hlk
      have hne : c ≠ i := by intro e; rw [e, hci] at h2; omega
      exact ⟨c, h1, by rw [hcg, if_neg hne]; exact h2, by rw [hcg, if_neg hne]; exact h3, by rw [hcg, if_neg hne]; exact h4⟩
    · intro k m hm hb
      rcases app_get hm with hm' | ⟨rfl, rfl⟩
      · rcases h.hist k m hm' hb with ⟨q, e⟩ | ⟨e1, e2, e3⟩
        · exact Or.inl ⟨q, e.app _⟩
        · have hne : m.c ≠ i := by intro e; rw [e, hci] at e1; omega
          refine Or.inr ⟨by rw [hcg, if_neg hne]; exact e1, by rw [hcg, if_neg hne]; exact e2, fun j m' hj hm2 => ?_⟩
          rcases app_get hm2 with hm3 | ⟨rfl, rfl⟩
          · exact e3 j m' hj hm3
          · exact fun e => hne e.symm
      · refine Or.inr ⟨by rw [hcg, if_pos rfl]; simp, ⟨r, by rw [hcg, if_pos rfl]; exact hop⟩, fun j m' hj hm2 => ?_⟩
        have hlt2 : j < (s.ms ++ [(⟨i, true, o, rep0⟩ : MomT)]).length := get_lt hm2
        simp at hlt2
        have hj' : s.ms.length < j := hj
        omega
    · have := act_sum (x := { s.cls[i] with st := 1 }) hl
      have hA : act1 s.cls[i] = 0 := by simp [act1, h0]
      have hB : act1 { s.cls[i] with st := 1 } = 1 := by simp [act1]
      have hc := h.cnt
      show nBeg (s.ms ++ [⟨i, true, o, rep0⟩]) = nEnd (s.ms ++ [⟨i, true, o, rep0⟩]) + ((s.cls.set i { s.cls[i] with st := 1 }).map act1).sum
      rw [nBeg_app, nEnd_app]
      show nBeg s.ms + 1 = nEnd s.ms + 0 + _
      omega
    · intro c l hcl'
      show _ = begOps (s.ms ++ [⟨i, true, o, rep0⟩]) c ++ _
      rw [h.all c l hcl', hcg, begOps_app]
      by_cases e : c = i
      · subst e
        rw [if_pos rfl, hci]
        show begOps s.ms c ++ rest s.cls[c] = (begOps s.ms c ++ if (true && c == c) = true then [o] else []) ++ _
        rw [if_pos (by simp), List.append_assoc]
        congr 1
        unfold rest
        rw [if_pos h0, hop, if_neg (by simp)]
        rw [List.filter_cons, if_pos (show knw o = true from hkn)]
        rfl
      · rw [if_neg e]
        have : ((true && i == c) : Bool) = false := by simp; exact fun e2 => e e2.symm
        simp only [this]
        simp
    · intro k m hm
      rcases app_get hm with hm' | ⟨rfl, rfl⟩
      · exact h.who k m hm'
      · exact hil
  · rw [if_neg h0] at hok ⊢
    by_cases h1 : s.cls[i].st = 1
    · rw [if_pos h1] at hok ⊢
      -- it acts
      have key : ∀ (x : Cl) (tab' : List Kv), x.ops = s.cls[i].ops → x.st = 2 → o.1 ≠ 3 → StOk ⟨tab', s.lkd, s.cls.set i x, last, s.ms⟩ → PInv cl ⟨tab', s.lkd, s.cls.set i x, last, s.ms⟩ := fun x tab' e1 e2 e3 hok' => by
        refine h.quiet hl x tab' s.lkd last hok' h1 (Or.inr e2) e1 (fun j hj hlk => ?_)
        obtain ⟨c, p1, p2, p3, o', r', p4, p5⟩ := h.lks j hj hlk
        have hne : c ≠ i := by intro e; rw [e, hci, hop] at p4; cases p4; exact e3 p5
        have hg : (s.cls.set i x).getD c cl0 = cg s c := by rw [getD_set hl, if_neg hne]; rfl
        exact ⟨c, p1, by rw [hg]; exact p2, by rw [hg]; exact p3, o', r', by rw [hg]; exact p4, p5⟩
      unfold actX at hok ⊢
      by_cases k1 : o.1 = 1
      · rw [if_pos k1] at hok ⊢
        cases hy : look s.tab o.2.1 with
        | some y =>
          simp only [hy] at hok ⊢
          exact key _ _ rfl rfl (by omega) hok
        | none =>
          simp only [hy] at hok ⊢
          exact key _ _ rfl rfl (by omega) hok
      · rw [if_neg k1] at hok ⊢
        by_cases k2 : o.1 = 2
        · rw [if_pos k2] at hok ⊢
          exact key _ _ rfl rfl (by omega) hok
        · rw [if_neg k2] at hok ⊢
          have k3 : o.1 = 3 := by simp [known] at hkn; omega
          rw [if_pos k3] at hok ⊢
          by_cases h8 : s.cls[i].lk < 8
          · rw [if_pos h8] at hok ⊢
            refine h.quiet hl { s.cls[i] with lk := s.cls[i].lk + 1 } s.tab _ last hok h1 (Or.inl h1) rfl (fun j hj hlk => ?_)
            by_cases ej : j = s.cls[i].lk
            · have hg : (s.cls.set i { s.cls[i] with lk := s.cls[i].lk + 1 }).getD i cl0 = { s.cls[i] with lk := s.cls[i].lk + 1 } := by rw [getD_set hl, if_pos rfl]
              exact ⟨i, hil, by rw [hg]; exact h1, by rw [hg]; show j < s.cls[i].lk + 1; omega, o, r, by rw [hg]; exact hop, k3⟩
            · have hlk' : s.lkd j = true := by
                have hlk2 : (if j = s.cls[i].lk then true else s.lkd j) = true := hlk
                rw [if_neg ej] at hlk2; exact hlk2
              obtain ⟨c, p1, p2, p3, p4⟩ := h.lks j hj hlk'
              by_cases e : c = i
              · have hg : (s.cls.set i { s.cls[i] with lk := s.cls[i].lk + 1 }).getD i cl0 = { s.cls[i] with lk := s.cls[i].lk + 1 } := by rw [getD_set hl, if_pos rfl]
                rw [e, hci] at p3
                exact ⟨i, hil, by rw [hg]; exact h1, by rw [hg]; show j < s.cls[i].lk + 1; omega, o, r, by rw [hg]; exact hop, k3⟩
              · have hg : (s.cls.set i { s.cls[i] with lk := s.cls[i].lk + 1 }).getD c cl0 = cg s c := by rw [getD_set hl, if_neg e]; rfl
                exact ⟨c, p1, by rw [hg]; exact p2, by rw [hg]; exact p3, by rw [hg]; exact p4⟩
          · rw [if_neg h8] at hok ⊢
            exact h.quiet hl _ s.tab _ last hok h1 (Or.inr rfl) rfl (fun j hj hlk => by cases hlk)
    · -- it ends
      rw [if_neg h1] at hok ⊢
      have h2 : s.cls[i].st = 2 := by have := hcl.st; omega
      have hcg : ∀ c, cg { s with last := last, ms := s.ms ++ [⟨i, false, o, s.cls[i].rp⟩], cls := s.cls.set i { s.cls[i] with st := 0, ops := fromK r } } c = if c = i then { s.cls[i] with st := 0, ops := fromK r } else cg s c := fun c => getD_set hl
      refine ⟨by rw [← h.len]; simp, hok, ?_, ?_, ?_, ?_, ?_⟩
      · intro j hj hlk
        obtain ⟨c, h1', h2', h3, h4⟩ := h.lks j hj hlk
        have hne : c ≠ i := by intro e; rw [e, hci] at h2'; omega
        exact ⟨c, h1', by rw [hcg, if_neg hne]; exact h2', by rw [hcg, if_neg hne]; exact h3, by rw [hcg, if_neg hne]; exact h4⟩
      · intro k m hm hb
        rcases app_get hm with hm' | ⟨rfl, rfl⟩
        · rcases h.hist k m hm' hb with ⟨q, e⟩ | ⟨e1, ⟨r', e2⟩, e3⟩
          · exact Or.inl ⟨q, e.app _⟩
          · by_cases hne : m.c = i
            · rw [hne, hci, hop] at e2
              have e2' : o = m.op := by injection e2
              refine Or.inl ⟨s.ms.length, get_lt hm', by simp, fun m1 m2 p1 p2 => ?_, fun j m1 m2 p0 p1 p2 p3 => ?_⟩
              · rw [hm] at p1
                cases p1
                simp at p2
                subst p2
                exact ⟨hne.symm, rfl, e2'⟩
              · rw [hm] at p2
                cases p2
                rw [List.getElem?_append_left p1] at p3
                exact e3 j m2 p0 p3
            · refine Or.inr ⟨by rw [hcg, if_neg hne]; exact e1, ⟨r', by rw [hcg, if_neg hne]; exact e2⟩, fun j m' hj hm2 => ?_⟩
              rcases app_get hm2 with hm3 | ⟨rfl, rfl⟩
              · exact e3 j m' hj hm3
              · exact fun e => hne e.symm
        · cases hb
      · have := act_sum (x := { s.cls[i] with st := 0, ops := fromK r }) hl
        have hA : act1 s.cls[i] = 1 := by simp [act1, h2]
        have hB : act1 { s.cls[i] with st := 0, ops := fromK r } = 0 := by simp [act1]
        have hc := h.cnt
        show nBeg (s.ms ++ [⟨i, false, o, s.cls[i].rp⟩]) = nEnd (s.ms ++ [⟨i, false, o, s.cls[i].rp⟩]) + ((s.cls.set i { s.cls[i] with st := 0, ops := fromK r }).map act1).sum
        rw [nBeg_app, nEnd_app]
        show nBeg s.ms + 0 = nEnd s.ms + 1 + _
        omega
      · intro c l hcl'
        show _ = begOps (s.ms ++ [⟨i, false, o, s.cls[i].rp⟩]) c ++ _
        rw [h.all c l hcl', hcg, begOps_app]
        have : ((false && i == c) : Bool) = false := rfl
        simp only [this]
        by_cases e : c = i
        · subst e
          rw [if_pos rfl, hci]
          simp only [Bool.false_eq_true, if_false, List.append_nil]
          congr 1
          unfold rest
          rw [if_neg (by omega), if_pos rfl]
          simp only
          rw [hop, filter_fromK]
          rfl
        · rw [if_neg e]; simp
      · intro k m hm
        rcases app_get hm with hm' | ⟨rfl, rfl⟩
        · exact h.who k m hm'
        · exact hil

theorem PInv.iterates {cl : List (List OpT)} (hk : ∀ l ∈ cl, ∀ o ∈ l, In64 o.2.1) (zs : List Int) : ∀ k, PInv cl (iter zs (begin0 cl) k)
  | 0 => PInv.begin hk
  | k + 1 => by
    have ih := PInv.iterates hk zs k
    by_cases hab : able (iter zs (begin0 cl) k) = []
    · have : iter zs (begin0 cl) (k + 1) = iter zs (begin0 cl) k := iter_stop hab 1
      rw [this]; exact ih
    · rw [iter_step hab]
      exact ih.step (pick_mem hab) _

/-- Where nobody can go on all have ended. -/
theorem PInv.over {cl : List (List OpT)} {s : St} (h : PInv cl s) (hab : able s = []) : ∀ c, c < cl.length → (cg s c).ops = [] := by
  have hno : ∀ c, c < cl.length → canGo s (cg s c) = false := fun c hc => by
    cases hg : canGo s (cg s c) with
    | false => rfl
    | true =>
      have : c ∈ able s := by
        unfold able ableTo
        rw [List.mem_filter]
        exact ⟨List.mem_range.2 (by rw [h.len]; exact hc), hg⟩
      rw [hab] at this; cases this
  have hok : ∀ c, c < cl.length → ClOk (cg s c) := fun c hc => by
    have hc' : c < s.cls.length := by rw [h.len]; exact hc
    have : cg s c = s.cls[c] := by unfold cg; rw [List.getD_eq_getElem?_getD]; simp [hc']
    rw [this]; exact h.ok _ (List.getElem_mem hc')
  -- who can't go on waits for a stripe
  have wait : ∀ c, c < cl.length → (cg s c).ops ≠ [] → ∃ j : Nat, j < 8 ∧ needs (cg s c) = (j : Int) ∧ s.lkd j = true := fun c hc hne => by
    have h1 := hno c hc
    rcases needs_cases (cg s c) with hn | ⟨j, hj, hn⟩
    · simp [canGo, hn, hne] at h1
    · refine ⟨j, hj, hn, ?_⟩
      have e1 : ((j : Int) == -1) = false := by first | (simp; done) | (simp; omega)
      simp only [canGo, hn, e1] at h1
      have e2 : (cg s c).ops.isEmpty = false := by simp [hne]
      rw [e2] at h1
      simpa using h1
  -- no stripe is locked: take one that holds the most
  have free : ∀ d j, j < 8 → 8 - j = d → s.lkd j = true → False := by
    intro d
    induction d using Nat.strongRecOn with
    | _ d ih =>
      intro j hj hd hl
      obtain ⟨c, p1, p2, p3, o, r, p4, p5⟩ := h.lks j hj hl
      obtain ⟨q, hq, hn, hlq⟩ := wait c p1 (by rw [p4]; simp)
      have hlk8 := (hok c p1).lk
      have hne : needs (cg s c) = if (cg s c).lk < 8 then ((cg s c).lk : Int) else -1 := by
        unfold needs
        rw [if_neg (by omega), p4]
        simp only
        rw [if_neg (by simp [p5])]
      rw [hn] at hne
      split at hne
      · have : q = (cg s c).lk := by omega
        exact ih (8 - q) (by omega) q hq rfl hlq
      · omega
  intro c hc
  by_cases hne : (cg s c).ops = []
  · exact hne
  · obtain ⟨j, hj, -, hl⟩ := wait c hc hne
    exact (free _ j hj rfl hl).elim

/-- What a history is, at the end. -/
structure Hist (cl : List (List OpT)) (ms : List MomT) : Prop where
  ends : ∀ (i : Nat) (m : MomT), ms[i]? = some m → m.beg = true → ∃ k, Ends ms i k
  cnt : nBeg ms = nEnd ms
  all : ∀ c l, cl[c]? = some l → l.filter knw = begOps ms c
  who : ∀ (i : Nat) (m : MomT), ms[i]? = some m → m.c < cl.length
theorem PInv.hist_end {cl : List (List OpT)} {s : St} (h : PInv cl s) (hab : able s = []) : Hist cl s.ms := by
  have ho := h.over hab
  refine ⟨fun i m hm hb => ?_, ?_, fun c l hl => ?_, h.who⟩
  · rcases h.hist i m hm hb with e | ⟨-, ⟨r, e⟩, -⟩
    · exact e
    · rw [ho m.c (h.who i m hm)] at e; cases e
  · have : (s.cls.map act1).sum = 0 := by
      have hz : ∀ c ∈ s.cls, act1 c = 0 := fun c hc => by
        obtain ⟨i, hi, rfl⟩ := List.getElem_of_mem hc
        have e : cg s i = s.cls[i] := by unfold cg; rw [List.getD_eq_getElem?_getD]; simp [hi]
        have := ho i (by rw [← h.len]; exact hi)
        rw [e] at this
        simp [act1, (h.ok _ (List.getElem_mem hi)).empty this]
      have : ∀ l : List Cl, (∀ c ∈ l, act1 c = 0) → (l.map act1).sum = 0 := fun l => by
        induction l with
        | nil => intro _; rfl
        | cons a r ih => intro hz'; rw [List.map_cons, List.sum_cons, ih (fun c hc => hz' c (by simp [hc])), hz' a (by simp)]
      exact this _ hz
    have := h.cnt
    omega
  · have hc : c < cl.length := (List.getElem?_eq_some_iff.1 hl).1
    rw [h.all c l hl]
    unfold rest
    rw [ho c hc]
    simp
end Go.Proofs.YtihicdbplmdjiaaGreat.Pl
