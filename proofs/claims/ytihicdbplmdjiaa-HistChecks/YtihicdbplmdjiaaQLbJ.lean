import Derived.Test.YtihicdbplmdjiaaQP5J
namespace Go.Proofs.Ytihicdbplmdjiaa
set_option linter.unusedVariables false
set_option linter.unusedSimpArgs false

/-! ### trying all orders -/
def bI (cs : List Cl) (i : Nat) : Int := ((cs.getD i clZ).b : Int)
theorem getD_is {cs : List Cl} {i : Nat} (hi : i < cs.length) : cs.getD i clZ = cs[i] := by rw [List.getD_eq_getElem?_getD, List.getElem?_eq_getElem hi]; rfl
theorem bI_is {cs : List Cl} {i : Nat} (hi : i < cs.length) : bI cs i = (cs[i].b : Int) := by unfold bI; rw [getD_is hi]
theorem some_bit {x : Nat} (h : x ≠ 0) : ∃ i, x.testBit i = true := by
  apply Classical.byContradiction
  intro hn
  apply h
  apply Nat.eq_of_testBit_eq
  intro i
  rw [Nat.zero_testBit]
  cases e : x.testBit i with
  | false => rfl
  | true => exact absurd ⟨i, e⟩ hn
theorem idx_inj {cs : List Cl} (hb : (cs.map Cl.b).Pairwise (· < ·)) {i j : Nat} (hi : i < cs.length) (hj : j < cs.length) (e : cs[i] = cs[j]) : i = j := by
  have hp := List.pairwise_iff_getElem.1 hb
  rcases Nat.lt_trichotomy i j with hl | hl | hl
  · have := hp i j (by simpa using hi) (by simpa using hj) hl
    simp only [List.getElem_map, e] at this; omega
  · exact hl
  · have := hp j i (by simpa using hj) (by simpa using hi) hl
    simp only [List.getElem_map, e] at this; omega
theorem bI_inj {cs : List Cl} (hb : (cs.map Cl.b).Pairwise (· < ·)) {i j : Nat} (hi : i < cs.length) (hj : j < cs.length) (e : bI cs i = bI cs j) : i = j := by
  rw [bI_is hi, bI_is hj] at e
  exact idx_inj hb hi hj (b_inj hb (List.getElem_mem hi) (List.getElem_mem hj) (by omega))
/-- Where one is left that waits for nothing, there is a least one. -/
theorem free_not {left : Nat} {ws : List Nat} {j : Nat} (hj : left.testBit j = true) (h : freeB left ws j = false) : ∃ m, left.testBit m = true ∧ (ws.getD j 0).testBit m = true := by
  unfold freeB at h
  rw [hj, Bool.true_and, decide_eq_false_iff_not] at h
  obtain ⟨m, hm⟩ := some_bit h
  rw [Nat.testBit_and, Bool.and_eq_true] at hm
  exact ⟨m, hm⟩
theorem least_before {left : Nat} {ws : List Nat} {i : Nat} (h : leastX left ws = some i) : ∀ j, j < i → freeB left ws j = false := by
  unfold leastX at h
  rw [List.find?_eq_some_iff_append] at h
  obtain ⟨-, us, bs, e, hn⟩ := h
  intro j hj
  have hl : us.length = i := by
    have h1 : (List.range ws.length)[us.length]? = some i := by rw [e, List.getElem?_append_right (Nat.le_refl _), Nat.sub_self]; rfl
    obtain ⟨h2, h3⟩ := List.getElem?_eq_some_iff.1 h1
    rw [List.getElem_range] at h3
    exact h3
  have hm : j ∈ us := by
    have h1 : (List.range ws.length)[j]? = us[j]? := by rw [e, List.getElem?_append_left (by omega)]
    have hja : us[j]? = some us[j] := List.getElem?_eq_getElem (by omega)
    rw [hja] at h1
    obtain ⟨h2, h3⟩ := List.getElem?_eq_some_iff.1 h1
    rw [List.getElem_range] at h3
    rw [h3]; exact List.getElem_mem _
  have := hn j hm
  simpa using this
theorem ord_some {cs L : List Cl} (hl : cs.length ≤ 64) (hb : (cs.map Cl.b).Pairwise (· < ·)) (hs : Seq cs L) {left : Nat} {acc : List Nat} {r : Option (List Nat)} (h : Ord (waitsX cs) left acc r) : left < 18446744073709551616 → (∀ j, left.testBit j = true → j < cs.length) → r ≠ none := by
  induction h with
  | done acc => intro _ _ e; cases e
  | stuck left acc h0 h1 =>
    intro hlt hbn _
    obtain ⟨j0, hj0⟩ := some_bit h0
    obtain ⟨L', eL⟩ : ∃ L', L' = L.filter (fun c => (List.range cs.length).any (fun j => left.testBit j && decide ((cs.getD j clZ).b = c.b))) := ⟨_, rfl⟩
    have hin : ∀ j, left.testBit j = true → ∀ (hj : j < cs.length), cs[j] ∈ L' := fun j hj hjn => by
      rw [eL, List.mem_filter]
      refine ⟨hs.all _ (List.getElem_mem hjn), ?_⟩
      rw [List.any_eq_true]
      exact ⟨j, List.mem_range.2 hjn, by rw [getD_is hjn, hj]; simp⟩
    have hpw : L'.Pairwise (fun a b => precB b a = false) := by rw [eL]; exact hs.pw.filter _
    cases hc : L' with
    | nil =>
      have := hin j0 hj0 (hbn j0 hj0)
      rw [hc] at this; cases this
    | cons c rest =>
      have hcm : c ∈ L' := by rw [hc]; exact List.mem_cons_self
      rw [eL, List.mem_filter, List.any_eq_true] at hcm
      obtain ⟨hcL, m, hm, hmb⟩ := hcm
      have hmn := List.mem_range.1 hm
      rw [Bool.and_eq_true, decide_eq_true_eq, getD_is hmn] at hmb
      have hce : cs[m] = c := b_inj hb (List.getElem_mem hmn) (hs.sub c hcL) hmb.2
      have hnf : freeB left (waitsX cs) m = false := by
        unfold leastX at h1
        have := List.find?_eq_none.1 h1 m (by rw [waitsX_len]; exact hm)
        simpa using this
      obtain ⟨j, hj1, hj2⟩ := free_not hmb.1 hnf
      have hjn := hbn j hj1
      rw [waits_bit hl hmn hjn] at hj2
      simp only [Bool.and_eq_true, decide_eq_true_eq] at hj2
      have hjL := hin j hj1 hjn
      rw [hc] at hjL hpw
      rcases List.mem_cons.1 hjL with e | e
      · exact hj2.1 (idx_inj hb hjn hmn (e.trans hce.symm))
      · have := (List.pairwise_cons.1 hpw).1 _ e
        rw [← hce, hj2.2] at this
        cases this
  | step left i acc r h0 h1 h2 ih =>
    intro hlt hbn
    obtain ⟨hbi, hi⟩ := leastX_bit h1
    rw [waitsX_len] at hi
    refine ih (dropS_lt i hlt) fun j hj => ?_
    rw [dropS_bit j hlt (by omega), Bool.and_eq_true] at hj
    exact hbn j hj.1
def tryL (f : List Int → List Int) (head : List Int) : List Cl → List Int
  | [] => []
  | c :: r => if (c.b : Int) ∈ head then tryL f head r else if f (head ++ [(c.b : Int)]) = [] then tryL f head r else f (head ++ [(c.b : Int)])
/-- What tried tells. -/
def triedX (cs : List Cl) : Nat → List Int → List Int
  | 0, head => if playedX cs head then head else []
  | k + 1, head => tryL (triedX cs k) head cs
theorem tryL_is {f : List Int → List Int} {head : List Int} : ∀ {l : List Cl}, tryL f head l ≠ [] → ∃ c ∈ l, (c.b : Int) ∉ head ∧ f (head ++ [(c.b : Int)]) ≠ [] ∧ tryL f head l = f (head ++ [(c.b : Int)])
  | [], h => absurd rfl h
  | c :: r, h => by
    unfold tryL at h ⊢
    by_cases h1 : (c.b : Int) ∈ head
    · rw [if_pos h1] at h ⊢
      obtain ⟨d, hd, q⟩ := tryL_is h
      exact ⟨d, List.mem_cons_of_mem _ hd, q⟩
    · rw [if_neg h1] at h ⊢
      by_cases h2 : f (head ++ [(c.b : Int)]) = []
      · rw [if_pos h2] at h ⊢
        obtain ⟨d, hd, q⟩ := tryL_is h
        exact ⟨d, List.mem_cons_of_mem _ hd, q⟩
      · rw [if_neg h2] at h ⊢
        exact ⟨c, List.mem_cons_self, h1, h2, rfl⟩
theorem tryL_at {f : List Int → List Int} {head res : List Int} : ∀ {l : List Cl} {i : Nat} (hi : i < l.length), (∀ j (hj : j < i), (l[j].b : Int) ∈ head ∨ f (head ++ [(l[j].b : Int)]) = []) → (l[i].b : Int) ∉ head → f (head ++ [(l[i].b : Int)]) = res → res ≠ [] → tryL f head l = res
  | [], i, hi, _, _, _, _ => absurd hi (by simp)
  | c :: r, 0, _, _, h1, h2, h3 => by
    unfold tryL
    simp only [List.getElem_cons_zero] at h1 h2
    rw [if_neg h1, h2, if_neg h3]
  | c :: r, i + 1, hi, h0, h1, h2, h3 => by
    unfold tryL
    have hc := h0 0 (by omega)
    simp only [List.getElem_cons_zero] at hc
    have ih : tryL f head r = res := tryL_at (by simpa using hi) (fun j hj => by have := h0 (j + 1) (by omega); simpa using this) (by simpa using h1) (by simpa using h2) h3
    by_cases h4 : (c.b : Int) ∈ head
    · rw [if_pos h4]; exact ih
    · rw [if_neg h4, if_pos (by rcases hc with hc | hc; exact absurd hc h4; exact hc)]; exact ih
theorem tried_played (cs : List Cl) : ∀ k head, triedX cs k head ≠ [] → playedX cs (triedX cs k head) = true ∧ ∃ r, triedX cs k head = head ++ r
  | 0, head, h => by
    unfold triedX at h ⊢
    by_cases hp : playedX cs head = true
    · rw [if_pos hp]; exact ⟨hp, [], by simp⟩
    · rw [if_neg hp] at h; exact absurd rfl h
  | k + 1, head, h => by
    unfold triedX at h ⊢
    obtain ⟨c, -, -, h2, h3⟩ := tryL_is h
    obtain ⟨q1, r, q2⟩ := tried_played cs k _ h2
    rw [h3]
    exact ⟨q1, [(c.b : Int)] ++ r, by rw [q2, List.append_assoc]⟩
/-- What is played is an order. -/
theorem played_val {cs : List Cl} (hb : (cs.map Cl.b).Pairwise (· < ·)) {os : List Int} (h : playedX cs os = true) : ∃ L : List Cl, os = L.map (fun c => (c.b : Int)) ∧ Val cs L ∧ ∀ c ∈ cs, c ∈ L := by
  unfold playedX at h
  rw [Bool.and_eq_true, decide_eq_true_eq] at h
  obtain ⟨L, h1, h2, h3⟩ := play_val os [] h.2
  have hv : Val cs L := ⟨h2, fun us c bs e => by have := h3 us c bs e; simpa using this⟩
  refine ⟨L, h1, hv, fun c hc => ?_⟩
  apply Classical.byContradiction
  intro hn
  have hnd : (L.map Cl.b).Nodup := by
    unfold List.Nodup
    rw [List.pairwise_map, List.pairwise_iff_getElem]
    intro i j hi hj hij
    have e : L = L.take j ++ L[j] :: L.drop (j + 1) := by rw [List.getElem_cons_drop]; exact (List.take_append_drop j L).symm
    exact (hv.clk e (by rw [List.mem_take_iff_getElem]; exact ⟨i, by omega, rfl⟩)).1
  have hcn : c.b ∉ L.map Cl.b := fun hm => by
    obtain ⟨d, hd, e⟩ := List.mem_map.1 hm
    have := b_inj hb (h2 d hd) hc e
    subst this
    exact hn hd
  have := len_sub (l1 := c.b :: L.map Cl.b) (l2 := cs.map Cl.b) (List.nodup_cons.2 ⟨hcn, hnd⟩) (fun x hx => by
    rcases List.mem_cons.1 hx with rfl | hx
    · exact List.mem_map_of_mem hc
    · obtain ⟨d, hd, rfl⟩ := List.mem_map.1 hx
      exact List.mem_map_of_mem (h2 d hd))
  have hlen := h.1
  rw [h1] at hlen
  simp at this hlen
  omega
end Go.Proofs.Ytihicdbplmdjiaa

namespace Go.Proofs.Ytihicdbplmdjiaa
set_option linter.unusedVariables false
set_option linter.unusedSimpArgs false

theorem good_step {cs : List Cl} (hl : cs.length ≤ 64) {left i : Nat} {acc : List Nat} (h1 : leastX left (waitsX cs) = some i) (hlt : left < 18446744073709551616) (hbn : ∀ j, left.testBit j = true → j < cs.length) (hb : ∀ j, j < cs.length → (left.testBit j = true ↔ j ∉ acc)) (hg : Good cs acc) :
    i < cs.length ∧ i ∉ acc ∧ dropS left i < 18446744073709551616 ∧ (∀ j, (dropS left i).testBit j = true → j < cs.length) ∧ (∀ j, j < cs.length → ((dropS left i).testBit j = true ↔ j ∉ acc ++ [i])) ∧ Good cs (acc ++ [i]) := by
  obtain ⟨hbi, hi⟩ := leastX_bit h1
  rw [waitsX_len] at hi
  have hfree : left &&& (waitsX cs).getD i 0 = 0 := by
    unfold leastX at h1
    have := List.find?_some h1
    unfold freeB at this
    simp only [Bool.and_eq_true, decide_eq_true_eq] at this
    exact this.2
  have hia : i ∉ acc := (hb i hi).1 hbi
  refine ⟨hi, hia, dropS_lt i hlt, fun j hj => ?_, fun j hj => ?_, ⟨fun k hk => ?_, ?_, fun p hp j hj hne hpi hpr => ?_⟩⟩
  · rw [dropS_bit j hlt (by omega)] at hj
    simp only [Bool.and_eq_true] at hj
    exact hbn j hj.1
  · rw [dropS_bit j hlt (by omega), List.mem_append, List.mem_singleton]
    have := hb j hj
    by_cases e : j = i
    · simp [e]
    · simp only [Bool.and_eq_true, Bool.not_eq_true', decide_eq_false_iff_not]
      rw [this]
      simp [e]
  · rcases List.mem_append.1 hk with hk | hk
    · exact hg.lt k hk
    · rw [List.mem_singleton.1 hk]; exact hi
  · rw [List.nodup_append]
    exact ⟨hg.nodup, by simp, fun a ha b hb2 => by rw [List.mem_singleton.1 hb2]; exact fun e => hia (e ▸ ha)⟩
  · rw [List.length_append, List.length_singleton] at hp
    rcases Nat.lt_or_ge p acc.length with h3 | h3
    · have e1 : (acc ++ [i])[p]'(by simp; omega) = acc[p] := List.getElem_append_left h3
      rw [List.take_append_of_le_length (by omega)]
      exact hg.ahead p h3 j hj (by rw [← e1]; exact hne) (by rw [← e1]; exact hpi) (by simpa only [e1] using hpr)
    · have e0 : p = acc.length := by omega
      subst e0
      have e1 : (acc ++ [i])[acc.length]'(by simp) = i := by simp
      rw [List.take_append_of_le_length (Nat.le_refl _), List.take_of_length_le (Nat.le_refl _)]
      have hw := waits_bit hl hi hj
      have hpr2 : precB cs[j] cs[i] = true := by simpa only [e1] using hpr
      rw [hpr2, show decide (j ≠ i) = true from decide_eq_true (by rw [← e1]; exact hne)] at hw
      by_cases hja : j ∈ acc
      · exact hja
      · have hlj := (hb j hj).2 hja
        have : (left &&& (waitsX cs).getD i 0).testBit j = true := by rw [Nat.testBit_and, hlj, hw]; rfl
        rw [hfree, Nat.zero_testBit] at this
        cases this
theorem good_played {cs : List Cl} (hb : (cs.map Cl.b).Pairwise (· < ·)) (hk : ∀ c ∈ cs, c.kd = 1 ∨ c.kd = 2 ∨ c.kd = 3) (hr : ∀ c ∈ cs, rightReplyB c.kd c.R.r = true) (hp : possibleB (madeX cs) cs = true) {acc : List Nat} (hg : Good cs acc) (ha : ∀ j, j < cs.length → j ∈ acc) : playedX cs (acc.map (bI cs)) = true ∧ acc.length = cs.length := by
  obtain ⟨hs, hn, hlen⟩ := seqX_seq hb hg ha
  refine ⟨?_, hlen⟩
  unfold playedX
  rw [Bool.and_eq_true, decide_eq_true_eq]
  refine ⟨by simpa using hlen, ?_⟩
  have e : acc.map (bI cs) = (seqX cs acc).map (fun c => (c.b : Int)) := by unfold seqX; rw [List.map_map]; rfl
  rw [e]
  exact hs.play hn hb hp hr hk _ [] rfl
/-- A call that another one must stand ahead of is tried in vain. -/
theorem no_tried {cs : List Cl} (hb : (cs.map Cl.b).Pairwise (· < ·)) (hk : ∀ c ∈ cs, c.kd = 1 ∨ c.kd = 2 ∨ c.kd = 3) (hr : ∀ c ∈ cs, rightReplyB c.kd c.R.r = true) {k j m : Nat} {head : List Int} (hj : j < cs.length) (hm : m < cs.length) (hne : m ≠ j) (hp : precB cs[m] cs[j] = true) (hh : (cs[m].b : Int) ∉ head) : triedX cs k (head ++ [(cs[j].b : Int)]) = [] := by
  apply Classical.byContradiction
  intro hn
  obtain ⟨h1, r, h2⟩ := tried_played cs k _ hn
  obtain ⟨L, h3, hv, ha⟩ := played_val hb h1
  have hs := hv.seq hk hr ha
  rw [h2] at h3
  obtain ⟨l1, l2, e1, e2, e3⟩ := List.map_eq_append_iff.1 h3.symm
  obtain ⟨us, l3, e4, e5, e6⟩ := List.map_eq_append_iff.1 e2
  obtain ⟨c, rfl, e7⟩ : ∃ c, l3 = [c] ∧ (c.b : Int) = cs[j].b := by
    cases l3 with
    | nil => cases e6
    | cons c l =>
      simp only [List.map_cons, List.cons.injEq, List.map_eq_nil_iff] at e6
      obtain ⟨q1, rfl⟩ := e6
      exact ⟨c, rfl, q1⟩
  subst e4
  have e8 : L = us ++ c :: l2 := by rw [e1]; simp
  have hc : c = cs[j] := b_inj hb (hv.sub c (by rw [e8]; simp)) (List.getElem_mem hj) (by omega)
  rw [e8, hc] at hs
  have := hs.ahead (List.getElem_mem hm) hp (fun e => hne (idx_inj hb hm hj e))
  exact hh (by rw [← e5]; exact List.mem_map_of_mem (f := fun c : Cl => (c.b : Int)) this)
theorem tried_ord {cs : List Cl} (hl : cs.length ≤ 64) (hb : (cs.map Cl.b).Pairwise (· < ·)) (hk : ∀ c ∈ cs, c.kd = 1 ∨ c.kd = 2 ∨ c.kd = 3) (hr : ∀ c ∈ cs, rightReplyB c.kd c.R.r = true) (hp : possibleB (madeX cs) cs = true) {left : Nat} {acc : List Nat} {r : Option (List Nat)} (h : Ord (waitsX cs) left acc r) :
    left < 18446744073709551616 → (∀ j, left.testBit j = true → j < cs.length) → (∀ j, j < cs.length → (left.testBit j = true ↔ j ∉ acc)) → Good cs acc → ∀ fin, r = some fin → ∀ k, k + acc.length = cs.length → triedX cs k (acc.map (bI cs)) = fin.map (bI cs) := by
  induction h with
  | done acc =>
    intro hlt hbn hbi hg fin e k hkk
    cases e
    have ha : ∀ j, j < cs.length → j ∈ acc := fun j hj => by
      have := hbi j hj
      rw [Nat.zero_testBit] at this
      exact Classical.not_not.1 (fun x => by have := this.2 x; cases this)
    obtain ⟨h1, h2⟩ := good_played hb hk hr hp hg ha
    have : k = 0 := by omega
    subst this
    unfold triedX
    rw [if_pos h1]
  | stuck left acc h0 h1 => intro _ _ _ _ fin e; cases e
  | step left i acc r h0 h1 h2 ih =>
    intro hlt hbn hbi hg fin e k hkk
    obtain ⟨hi, hia, g1, g2, g3, g4⟩ := good_step hl h1 hlt hbn hbi hg
    have hlen : acc.length + 1 ≤ cs.length := by
      have := len_sub (l1 := i :: acc) (l2 := List.range cs.length) (List.nodup_cons.2 ⟨hia, hg.nodup⟩) (fun x hx => by
        rcases List.mem_cons.1 hx with rfl | hx
        · exact List.mem_range.2 hi
        · exact List.mem_range.2 (hg.lt x hx))
      simpa using this
    obtain ⟨k', rfl⟩ : ∃ k', k = k' + 1 := ⟨k - 1, by omega⟩
    have ih' := ih g1 g2 g3 g4 fin e k' (by simp; omega)
    rw [List.map_append, List.map_cons, List.map_nil, bI_is hi] at ih'
    have hfin : fin.map (bI cs) ≠ [] := fun e2 => by
      rw [List.map_eq_nil_iff] at e2
      have := (ord_good hl h2 g1 g2 g3 g4 fin e).2 i hi
      rw [e2] at this; cases this
    have hnh : ∀ m, m < cs.length → m ∉ acc → bI cs m ∉ acc.map (bI cs) := fun m hm hma hx => by
      obtain ⟨x, hx2, ex⟩ := List.mem_map.1 hx
      have := bI_inj hb (hg.lt x hx2) hm ex
      subst this
      exact hma hx2
    unfold triedX
    refine tryL_at hi (fun j hj => ?_) ?_ ih' hfin
    · by_cases hjh : (cs[j].b : Int) ∈ acc.map (bI cs)
      · exact Or.inl hjh
      · right
        have hjn : j < cs.length := by omega
        have hja : j ∉ acc := fun hx => hjh (by rw [← bI_is hjn]; exact List.mem_map_of_mem hx)
        obtain ⟨m, hm1, hm2⟩ := free_not ((hbi j hjn).2 hja) (least_before h1 j hj)
        have hmn := hbn m hm1
        rw [waits_bit hl hjn hmn] at hm2
        simp only [Bool.and_eq_true, decide_eq_true_eq] at hm2
        refine no_tried hb hk hr hjn hmn hm2.1 hm2.2 ?_
        have := hnh m hmn ((hbi m hmn).1 hm1)
        rwa [bI_is hmn] at this
    · have := hnh i hi hia
      rwa [bI_is hi] at this
/-- THE LEAST ORDER THAT THERE IS, OR NONE. -/
theorem least_tried {h : List Mo} {cs : List Cl} (e : callsX h = some cs) (hl : cs.length ≤ 64) :
    ((possibleB (madeX cs) cs = false ∨ Ord (waitsX cs) (2 ^ cs.length - 1) [] none) → triedX cs cs.length [] = [] ∧ cs ≠ []) ∧
    (∀ acc, possibleB (madeX cs) cs = true → Ord (waitsX cs) (2 ^ cs.length - 1) [] (some acc) → triedX cs cs.length [] = acc.map (bI cs) ∧ acc.length = cs.length) := by
  obtain ⟨hk, hb⟩ := calls_begun e
  have hr := calls_right e
  have b1 : ∀ j, (2 ^ cs.length - 1).testBit j = true → j < cs.length := fun j hj => by rw [firsts_bit] at hj; simpa using hj
  constructor
  · intro hno
    constructor
    · apply Classical.byContradiction
      intro hn
      obtain ⟨h1, -⟩ := tried_played cs _ _ hn
      obtain ⟨L, -, hv, ha⟩ := played_val hb h1
      rcases hno with h2 | h2
      · rw [hv.possible hk ha] at h2; cases h2
      · exact ord_some hl hb (hv.seq hk hr ha) h2 (firsts_lt hl) b1 rfl
    · rintro rfl
      rcases hno with h2 | h2
      · cases h2
      · cases h2 with
        | stuck _ _ h => exact absurd rfl h
        | step _ i _ _ h => exact absurd rfl h
  · intro acc hp ho
    refine ⟨?_, ?_⟩
    · exact tried_ord hl hb hk hr hp ho (firsts_lt hl) b1 (fun j hj => by rw [firsts_bit]; simp [hj]) ⟨by simp, by simp, fun p hp => absurd hp (by simp)⟩ acc rfl cs.length rfl
    · obtain ⟨hg, ha⟩ := order_good hl ho
      exact (good_played hb hk hr hp hg ha).2
end Go.Proofs.Ytihicdbplmdjiaa
