import Derived.Test.YtihicdbplmdjiaaQLbJ
import Derived.Test.YtihicdbplmdjiaaQA9
namespace Go.Proofs.Ytihicdbplmdjiaa
set_option linter.unusedVariables false
set_option linter.unusedSimpArgs false

/-! ### the document's rule, in plain words -/
def seesB (c : Cl) (k : Int) : Bool := if c.kd = 3 then decide (k ∈ c.R.r.keys) else decide (c.ky = k) && (decide (c.kd = 1) != c.R.r.ok)
def missB (c : Cl) (k : Int) : Bool := if c.kd = 3 then !seesB c k else decide (c.kd = 2) && decide (c.ky = k) && !c.R.r.ok
def aheadB (a b : Cl) : Bool := decide (a.e < b.b) || (makesB a && seesB b a.ky) || (makesB b && missB a b.ky)
theorem sees_eq {c : Cl} (hk : c.kd = 1 ∨ c.kd = 2 ∨ c.kd = 3) (k : Int) : seesB c k = findsB c k := by
  unfold seesB findsB
  rcases hk with h | h | h <;> rw [h] <;> cases c.R.r.ok <;> simp
theorem miss_eq {c : Cl} (hk : c.kd = 1 ∨ c.kd = 2 ∨ c.kd = 3) {k : Int} (hn : ¬ (makesB c = true ∧ c.ky = k)) : missB c k = missesB c k := by
  unfold missB missesB
  rw [sees_eq hk]
  unfold makesB at hn
  unfold findsB
  rcases hk with h | h | h
  · rw [h] at hn ⊢
    by_cases hy : c.ky = k
    · cases ho : c.R.r.ok
      · simp [hy]
      · exact absurd ⟨by rw [ho]; rfl, hy⟩ hn
    · simp [hy]
  · rw [h]
    by_cases hy : c.ky = k <;> cases c.R.r.ok <;> simp [hy]
  · rw [h]; simp
theorem ahead_eq {a b : Cl} (ha : a.kd = 1 ∨ a.kd = 2 ∨ a.kd = 3) (hb : b.kd = 1 ∨ b.kd = 2 ∨ b.kd = 3) (hn : ¬ (makesB a = true ∧ makesB b = true ∧ a.ky = b.ky)) : aheadB a b = precB a b := by
  unfold aheadB precB
  rw [sees_eq hb]
  cases hmb : makesB b with
  | false => simp
  | true => rw [miss_eq ha (fun h => hn ⟨h.1, hmb, h.2⟩)]
def NoTwo (cs : List Cl) : Prop := ∀ i j (hi : i < cs.length) (hj : j < cs.length), i ≠ j → ¬ (makesB cs[i] = true ∧ makesB cs[j] = true ∧ cs[i].ky = cs[j].ky)
def refFree (cs : List Cl) (acc : List Nat) (i : Nat) : Bool := decide (i ∉ acc) && (List.range cs.length).all (fun k => decide (k ∈ acc) || decide (k = i) || !aheadB (cs.getD k clZ) (cs.getD i clZ))
def refLeast (cs : List Cl) (acc : List Nat) : Option Nat := (List.range cs.length).find? (refFree cs acc)
def refRep (cs : List Cl) (acc : List Nat) (i : Nat) : Bool := repB (doR (tabOf ((seqX cs acc).map opT)) (opT (cs.getD i clZ))) (repT (cs.getD i clZ))
/-- What the document's rule comes to. -/
inductive RefO (cs : List Cl) : List Nat → Option (List Nat) → Prop
  | done (acc : List Nat) : acc.length = cs.length → RefO cs acc (some acc)
  | stuck (acc : List Nat) : acc.length < cs.length → refLeast cs acc = none → RefO cs acc none
  | wrong (acc : List Nat) (i : Nat) : acc.length < cs.length → refLeast cs acc = some i → refRep cs acc i = false → RefO cs acc none
  | step (acc : List Nat) (i : Nat) (r : Option (List Nat)) : acc.length < cs.length → refLeast cs acc = some i → refRep cs acc i = true → RefO cs (acc ++ [i]) r → RefO cs acc r
theorem refLeast_some {cs : List Cl} {acc : List Nat} {i : Nat} (h : refLeast cs acc = some i) : i < cs.length ∧ i ∉ acc ∧ ∀ k (hk : k < cs.length) (hi : i < cs.length), k ∉ acc → k ≠ i → aheadB cs[k] cs[i] = false := by
  unfold refLeast at h
  have h1 := List.find?_some h
  have h2 := List.mem_range.1 (List.mem_of_find?_eq_some h)
  unfold refFree at h1
  rw [Bool.and_eq_true, decide_eq_true_eq, List.all_eq_true] at h1
  refine ⟨h2, h1.1, fun k hk hi hka hki => ?_⟩
  have := h1.2 k (List.mem_range.2 hk)
  rw [getD_is hk, getD_is hi] at this
  simpa [hka, hki] using this
/-- With one maker a key at most the two rules pick the same call. -/
theorem refLeast_is {cs : List Cl} (hl : cs.length ≤ 64) (hk : ∀ c ∈ cs, c.kd = 1 ∨ c.kd = 2 ∨ c.kd = 3) (hn : NoTwo cs) {left : Nat} {acc : List Nat} (hbn : ∀ j, left.testBit j = true → j < cs.length) (hb : ∀ j, j < cs.length → (left.testBit j = true ↔ j ∉ acc)) : refLeast cs acc = leastX left (waitsX cs) := by
  unfold refLeast leastX
  rw [waitsX_len]
  have key : ∀ i, i < cs.length → refFree cs acc i = freeB left (waitsX cs) i := fun i hi => by
    unfold refFree freeB
    have h1 : decide (i ∉ acc) = left.testBit i := by
      have := hb i hi
      cases e : left.testBit i with
      | true => simpa using this.1 e
      | false => simp only [decide_eq_false_iff_not]; intro hx; have := this.2 hx; rw [e] at this; cases this
    rw [h1]
    congr 1
    rw [Bool.eq_iff_iff, List.all_eq_true, decide_eq_true_eq]
    constructor
    · intro h
      apply Nat.eq_of_testBit_eq
      intro m
      rw [Nat.testBit_and, Nat.zero_testBit]
      cases e1 : left.testBit m with
      | false => rfl
      | true =>
        have hm := hbn m e1
        rw [waits_bit hl hi hm, Bool.true_and]
        have := h m (List.mem_range.2 hm)
        rw [getD_is hm, getD_is hi] at this
        simp only [Bool.or_eq_true, decide_eq_true_eq, Bool.not_eq_true'] at this
        by_cases hmi : m = i
        · simp [hmi]
        · have hma := (hb m hm).1 e1
          have h3 : aheadB cs[m] cs[i] = false := by
            rcases this with (h4 | h4) | h4
            · exact absurd h4 hma
            · exact absurd h4 hmi
            · exact h4
          rw [ahead_eq (hk _ (List.getElem_mem hm)) (hk _ (List.getElem_mem hi)) (hn m i hm hi hmi)] at h3
          rw [h3]; simp
    · intro h k hkr
      have hkn := List.mem_range.1 hkr
      rw [getD_is hkn, getD_is hi]
      simp only [Bool.or_eq_true, decide_eq_true_eq, Bool.not_eq_true']
      by_cases hka : k ∈ acc
      · exact Or.inl (Or.inl hka)
      · by_cases hki : k = i
        · exact Or.inl (Or.inr hki)
        · right
          rw [ahead_eq (hk _ (List.getElem_mem hkn)) (hk _ (List.getElem_mem hi)) (hn k i hkn hi hki)]
          have h2 : (left &&& (waitsX cs).getD i 0).testBit k = false := by rw [h, Nat.zero_testBit]
          rw [Nat.testBit_and, (hb k hkn).2 hka, waits_bit hl hi hkn, Bool.true_and] at h2
          simpa [hki] using h2
  have aux : ∀ (l : List Nat), (∀ i ∈ l, i < cs.length) → l.find? (refFree cs acc) = l.find? (freeB left (waitsX cs)) := by
    intro l
    induction l with
    | nil => intro _; rfl
    | cons a l ih =>
      intro h
      rw [List.find?_cons, List.find?_cons, key a (h a List.mem_cons_self), ih (fun i hi => h i (List.mem_cons_of_mem _ hi))]
  exact aux _ (fun i hi => List.mem_range.1 hi)
theorem ord_pre {ws : List Nat} {left : Nat} {acc : List Nat} {r : Option (List Nat)} (h : Ord ws left acc r) : ∀ fin, r = some fin → ∃ rest, fin = acc ++ rest := by
  induction h with
  | done acc => intro fin e; cases e; exact ⟨[], by simp⟩
  | stuck => intro fin e; cases e
  | step left i acc r h0 h1 h2 ih =>
    intro fin e
    obtain ⟨rest, e2⟩ := ih fin e
    exact ⟨[i] ++ rest, by rw [e2, List.append_assoc]⟩
theorem good_two {cs : List Cl} {fin : List Nat} (hg : Good cs fin) (ha : ∀ j, j < cs.length → j ∈ fin) : NoTwo cs := by
  intro i j hi hj hij ⟨h1, h2, h3⟩
  have key : ∀ {i j : Nat} (hi : i < cs.length) (hj : j < cs.length), i ≠ j → makesB cs[i] = true → makesB cs[j] = true → cs[i].ky = cs[j].ky → ∀ (p q : Nat) (hp : p < fin.length) (hq : q < fin.length), fin[p] = i → fin[q] = j → p < q := fun {i j} hi hj hij h1 h2 h3 p q hp hq ep eq => by
    subst ep eq
    have := hg.ahead q hq fin[p] hi hij hj (prec_makes h1 h2 h3)
    obtain ⟨r, hr, e⟩ := List.getElem_of_mem this
    rw [List.length_take] at hr
    rw [List.getElem_take] at e
    have := nd_inj hg.nodup (by omega) hp e
    omega
  obtain ⟨p, hp, ep⟩ := List.getElem_of_mem (ha i hi)
  obtain ⟨q, hq, eq⟩ := List.getElem_of_mem (ha j hj)
  have a1 := key hi hj hij h1 h2 h3 p q hp hq ep eq
  have a2 := key hj hi (fun e => hij e.symm) h2 h1 h3.symm q p hq hp eq ep
  omega
/-- Where Order tells an order, the document's rule tells the same. -/
theorem ref_same {cs : List Cl} (hl : cs.length ≤ 64) (hb : (cs.map Cl.b).Pairwise (· < ·)) (hk : ∀ c ∈ cs, c.kd = 1 ∨ c.kd = 2 ∨ c.kd = 3) (hr : ∀ c ∈ cs, rightReplyB c.kd c.R.r = true) (hp : possibleB (madeX cs) cs = true) (hn : NoTwo cs) {left : Nat} {acc : List Nat} {r : Option (List Nat)} (h : Ord (waitsX cs) left acc r) :
    left < 18446744073709551616 → (∀ j, left.testBit j = true → j < cs.length) → (∀ j, j < cs.length → (left.testBit j = true ↔ j ∉ acc)) → Good cs acc → ∀ fin, r = some fin → ∀ r', RefO cs acc r' → r' = some fin := by
  induction h with
  | done acc =>
    intro hlt hbn hbi hg fin e r' h'
    cases e
    have ha : ∀ j, j < cs.length → j ∈ acc := fun j hj => by
      have := hbi j hj
      rw [Nat.zero_testBit] at this
      exact Classical.not_not.1 (fun x => by have := this.2 x; cases this)
    have hlen := (good_played hb hk hr hp hg ha).2
    cases h' with
    | done => rfl
    | stuck h1 => omega
    | wrong i h1 => omega
    | step i r h1 => omega
  | stuck left acc h0 h1 => intro _ _ _ _ fin e; cases e
  | step left i acc r h0 h1 h2 ih =>
    intro hlt hbn hbi hg fin e r' h'
    obtain ⟨hi, hia, g1, g2, g3, g4⟩ := good_step hl h1 hlt hbn hbi hg
    have hrl := refLeast_is hl hk hn hbn hbi
    rw [h1] at hrl
    obtain ⟨hgf, haf⟩ := ord_good hl h2 g1 g2 g3 g4 fin e
    obtain ⟨rest, hrest⟩ := ord_pre h2 fin e
    have hrep : refRep cs acc i = true := by
      obtain ⟨hs, -, -⟩ := seqX_seq hb hgf haf
      have e3 : seqX cs fin = seqX cs acc ++ (cs.getD i clZ) :: seqX cs rest := by rw [hrest]; unfold seqX; simp
      rw [e3] at hs
      have hm : cs.getD i clZ ∈ cs := by rw [getD_is hi]; exact List.getElem_mem hi
      unfold refRep
      exact repB_iff.2 (hs.reply hp (hr _ hm) (hk _ hm))
    have hlen : acc.length < cs.length := by
      have := len_sub (l1 := i :: acc) (l2 := List.range cs.length) (List.nodup_cons.2 ⟨hia, hg.nodup⟩) (fun x hx => by
        rcases List.mem_cons.1 hx with rfl | hx
        · exact List.mem_range.2 hi
        · exact List.mem_range.2 (hg.lt x hx))
      simp at this; omega
    cases h' with
    | done h => omega
    | stuck _ h h3 => rw [hrl] at h3; cases h3
    | wrong _ j h h3 h4 => rw [hrl] at h3; cases h3; rw [hrep] at h4; cases h4
    | step _ j r h h3 h4 h5 => rw [hrl] at h3; cases h3; exact ih g1 g2 g3 g4 fin e r' h5
/-- What the document's rule tells is an order. -/
theorem ref_val {cs : List Cl} (hb : (cs.map Cl.b).Pairwise (· < ·)) {acc : List Nat} {r : Option (List Nat)} (h : RefO cs acc r) : (∀ i ∈ acc, i < cs.length) → acc.Nodup → (∀ us i bs, acc = us ++ i :: bs → refRep cs us i = true ∧ ∀ k (hk : k < cs.length) (hi : i < cs.length), k ∉ us → k ≠ i → aheadB cs[k] cs[i] = false) →
    ∀ fin, r = some fin → fin.length = cs.length ∧ (∀ i ∈ fin, i < cs.length) ∧ fin.Nodup ∧ (∀ us i bs, fin = us ++ i :: bs → refRep cs us i = true ∧ ∀ k (hk : k < cs.length) (hi : i < cs.length), k ∉ us → k ≠ i → aheadB cs[k] cs[i] = false) := by
  induction h with
  | done acc h => intro h1 h2 h3 fin e; cases e; exact ⟨h, h1, h2, h3⟩
  | stuck => intro _ _ _ fin e; cases e
  | wrong => intro _ _ _ fin e; cases e
  | step acc i r h0 h1 h2 h3 ih =>
    intro q1 q2 q3 fin e
    obtain ⟨a1, a2, a3⟩ := refLeast_some h1
    refine ih (fun k hk => ?_) ?_ (fun us j bs e2 => ?_) fin e
    · rcases List.mem_append.1 hk with hk | hk
      · exact q1 k hk
      · rw [List.mem_singleton.1 hk]; exact a1
    · rw [List.nodup_append]
      exact ⟨q2, by simp, fun a ha b hb2 => by rw [List.mem_singleton.1 hb2]; exact fun e => a2 (e ▸ ha)⟩
    · rcases List.eq_nil_or_concat bs with rfl | ⟨bs', x, rfl⟩
      · obtain ⟨e3, e4⟩ := List.append_inj' e2 rfl
        have e5 : j = i := by simpa using e4.symm
        subst e5 e3
        exact ⟨h2, fun k hk hi hka hki => a3 k hk hi hka hki⟩
      · have e3 : acc ++ [i] = (us ++ j :: bs') ++ [x] := by rw [e2]; simp
        obtain ⟨e4, -⟩ := List.append_inj' e3 rfl
        exact q3 us j bs' e4
/-- THE DOCUMENT'S RULE TELLS WHAT ORDER TELLS. -/
theorem ref_ord {h : List Mo} {cs : List Cl} (e : callsX h = some cs) (hl : cs.length ≤ 64) {r : Option (List Nat)} (hr' : RefO cs [] r) :
    ((possibleB (madeX cs) cs = false ∨ Ord (waitsX cs) (2 ^ cs.length - 1) [] none) → r = none) ∧
    (∀ acc, possibleB (madeX cs) cs = true → Ord (waitsX cs) (2 ^ cs.length - 1) [] (some acc) → r = some acc) := by
  obtain ⟨hk, hb⟩ := calls_begun e
  have hr := calls_right e
  have b1 : ∀ j, (2 ^ cs.length - 1).testBit j = true → j < cs.length := fun j hj => by rw [firsts_bit] at hj; simpa using hj
  constructor
  · intro hno
    cases hrr : r with
    | none => rfl
    | some fin =>
      exfalso
      obtain ⟨q1, q2, q3, q4⟩ := ref_val hb hr' (by simp) (by simp) (fun us i bs e => by simp at e) fin hrr
      have hall : ∀ j, j < cs.length → j ∈ fin := fun j hj => by
        apply Classical.byContradiction
        intro hx
        have := len_sub (l1 := j :: fin) (l2 := List.range cs.length) (List.nodup_cons.2 ⟨hx, q3⟩) (fun x hx => by
          rcases List.mem_cons.1 hx with rfl | hx
          · exact List.mem_range.2 hj
          · exact List.mem_range.2 (q2 x hx))
        simp at this; omega
      have hv : Val cs (seqX cs fin) := by
        refine ⟨fun c hc => ?_, fun us c bs e2 => ?_⟩
        · obtain ⟨i, hi, rfl⟩ := List.mem_map.1 hc
          rw [getD_is (q2 i hi)]; exact List.getElem_mem _
        · unfold seqX at e2
          obtain ⟨l1, l2, e3, e4, e5⟩ := List.map_eq_append_iff.1 e2
          cases l2 with
          | nil => cases e5
          | cons i l2 =>
            simp only [List.map_cons, List.cons.injEq] at e5
            obtain ⟨e5, -⟩ := e5
            have hin : i < cs.length := q2 i (by rw [e3]; simp)
            obtain ⟨a1, a2⟩ := q4 l1 i l2 e3
            have hus : us = seqX cs l1 := by unfold seqX; exact e4.symm
            rw [hus, ← e5]
            unfold fitsB
            rw [Bool.and_eq_true, List.all_eq_true]
            refine ⟨fun d hd => ?_, a1⟩
            unfold seqX at hd
            obtain ⟨k, hkl, rfl⟩ := List.mem_map.1 hd
            have hkn : k < cs.length := q2 k (by rw [e3]; simp [hkl])
            have hki : k ≠ i := fun e6 => by
              rw [e3] at q3
              exact (List.nodup_append.1 q3).2.2 k hkl i List.mem_cons_self e6
            obtain ⟨u1, u2, e7⟩ := List.append_of_mem hkl
            have hni : i ∉ u1 := fun hx => by
              rw [e3] at q3
              exact (List.nodup_append.1 q3).2.2 i (by rw [e7]; simp [hx]) i List.mem_cons_self rfl
            have hah := (q4 u1 k (u2 ++ i :: l2) (by rw [e3, e7]; simp)).2 i hin hkn hni (fun x => hki x.symm)
            unfold aheadB at hah
            simp only [Bool.or_eq_false_iff, decide_eq_false_iff_not] at hah
            rw [getD_is hkn, getD_is hin]
            have hbne : cs[k].b ≠ cs[i].b := fun e8 => hki (idx_inj hb hkn hin (b_inj hb (List.getElem_mem hkn) (List.getElem_mem hin) e8))
            simp [hbne, hah.1.1]
      have ha : ∀ c ∈ cs, c ∈ seqX cs fin := fun c hc => by
        obtain ⟨i, hi, rfl⟩ := List.getElem_of_mem hc
        exact List.mem_map.2 ⟨i, hall i hi, getD_is hi⟩
      rcases hno with h2 | h2
      · rw [hv.possible hk ha] at h2; cases h2
      · exact ord_some hl hb (hv.seq hk hr ha) h2 (firsts_lt hl) b1 rfl
  · intro acc hp ho
    obtain ⟨hg, ha⟩ := order_good hl ho
    exact ref_same hl hb hk hr hp (good_two hg ha) ho (firsts_lt hl) b1 (fun j hj => by rw [firsts_bit]; simp [hj]) ⟨by simp, by simp, fun p hp => absurd hp (by simp)⟩ acc rfl r hr'
end Go.Proofs.Ytihicdbplmdjiaa

namespace Go.Proofs.Ytihicdbplmdjiaa
open Go.RowKit (wrap32 wrap64)
set_option linter.unusedVariables false
set_option linter.unusedSimpArgs false

set_option maxHeartbeats 1000000 in
theorem rmakes_any (c : Cl) (w : World) : Calls Try.prog 50 #[c.V] w fun e w' => e = .returned (.bool (makesB c)) ∧ Fr (fun _ => False) w w' := by
  unfold Cl.V c9 makesB
  obtain ⟨b, en, kd, ky, v, ⟨⟨ok, val, ks, vs⟩, kv, vv⟩⟩ := c
  simp only
  have HF : Hd (Fr (fun _ => False) w (w.alloc (.cells #[vI b, vI en, vI kd, vI ky, .string v, .bool ok, .string val, kv, vv] 61))) := (Fr.refl _ w).alloc _
  by_cases hk : kd = 1
  · subst hk
    go_enter Try.func50, Try.ntmps50
    go_wp2_with fail
    go_ret
    exact ⟨by simp, HF.out⟩
  · go_enter Try.func50, Try.ntmps50
    go_wp2_with fail
    go_ret
    exact ⟨by simp [hk], HF.out⟩


set_option maxRecDepth 100000 in
set_option maxHeartbeats 4000000 in
/-- sees. -/
theorem rsees_any (c : Cl) (key : Int) (w : World) (h : c.R.At w) (hl : c.R.r.keys.length ≤ 1000000000000000000) : Calls Try.prog 51 #[c.V, vI key] w fun e w' => e = .returned (.bool (seesB c key)) ∧ Fr (fun _ => False) w w' := by
  unfold Cl.V c9 seesB
  obtain ⟨b, en, kd, ky, v, ⟨⟨ok, val, ks, vs⟩, kv, vv⟩⟩ := c
  simp only at hl ⊢
  have HF : Hd (Fr (fun _ => False) w (w.alloc (.cells #[vI b, vI en, vI kd, vI ky, .string v, .bool ok, .string val, kv, vv] 61))) := (Fr.refl _ w).alloc _
  by_cases hk : kd = 3
  · subst hk
    obtain ⟨ka, kc, ek, h1⟩ := h.1
    simp only [List.length_map] at ek h1
    subst ek
    have H1 : Hd (∀ i (hi : i < ks.length), ∃ g o, ka = some ⟨g, o, none⟩ ∧ ∀ W, Fr (fun _ => False) w W → W.cell? ⟨g, o + i, none⟩ = some (vI ks[i])) := fun i hi => by
      obtain ⟨g, o, e1, e3⟩ := h1 (by intro e; rw [List.map_eq_nil_iff] at e; subst e; simp at hi)
      have h2 := e3 i (by simpa using hi)
      exact ⟨g, o, e1, fun W f => (f.cell (cell_lt h2) (fun e => e)).trans (by rw [h2]; simp)⟩
    obtain ⟨n, en'⟩ : ∃ n, n = ks.length := ⟨_, rfl⟩
    have HN : Hd (n = ks.length) := en'
    rw [← en'] at HF hl ⊢
    clear h h1 en'
    go_enter Try.func51, Try.ntmps51
    go_upto_region 4 with fail
    obtain ⟨W0, eW0⟩ : ∃ W0, W0 = (w.alloc (.cells #[vI b, vI en, vI 3, vI ky, .string v, .bool ok, .string val, .slice ka n kc, vv] 61)) := ⟨_, rfl⟩
    have hb := heap_alloc_last w (.cells #[vI b, vI en, vI 3, vI ky, .string v, .bool ok, .string val, .slice ka n kc, vv] 61)
    rw [← eW0] at HF hb ⊢
    obtain ⟨pb, epb⟩ : ∃ pb, pb = w.heap.size := ⟨_, rfl⟩
    rw [← epb] at hb ⊢
    have HB : Hd (W0.heap[pb]? = some (.cells #[vI b, vI en, vI 3, vI ky, .string v, .bool ok, .string val, .slice ka n kc, vv] 61)) := hb
    clear eW0 hb epb
    go_loopw [5] (fun v wr => ∃ i : Nat, v = vI i ∧ i ≤ n ∧ Hd (Fr (fun _ => False) W0 wr ∧ key ∉ ks.take i)) (fun v _ => match v with | .int _ q => n - q.toNat | _ => 0)
    case atStart => exact ⟨0, rfl, by omega, Fr.refl _ _, by simp⟩
    case round =>
      obtain ⟨i, rfl, hi, HG⟩ := hrel
      obtain ⟨p0, p1, p2, p3, p4, p5, p6, p7, p8⟩ := nine ((HG.out.1.block _ (heap_lt HB.out) (fun e => e)).trans HB.out)
      by_cases hlt : i < n
      · have i0 : (0 : Int) ≤ i := by omega
        have i1 : (i : Int) < n := by omega
        have hik : i < ks.length := by rw [← HN.out]; exact hlt
        obtain ⟨g, o, rfl, hx⟩ := H1.out i hik
        have xd := hx wr (HF.out.trans HG.out.1)
        obtain ⟨z, ez⟩ : ∃ z, z = ks[i] := ⟨_, rfl⟩
        rw [← ez] at xd
        have HZ : Hd (ks.take (i + 1) = ks.take i ++ [z] ∧ z ∈ ks) := ⟨by rw [List.take_add_one, List.getElem?_eq_getElem hik, ez]; rfl, by rw [ez]; exact List.getElem_mem hik⟩
        clear hx ez hik
        by_cases hzk : z = key
        · subst hzk
          have hzz : ((z : Int) == z) = true := by simp
          go_wp2_with fail
          all_goals first | (go_ret; exact ⟨by simp [HZ.out.2], HF.out.trans HG.out.1⟩) | skip
        · have hzz : ((z : Int) == key) = false := by simpa using hzk
          go_wp2_with fail
          refine ⟨⟨i + 1, by simp, by omega, HG.out.1, ?_⟩, by simp; omega⟩
          rw [HZ.out.1]
          intro hm
          rcases List.mem_append.1 hm with hm | hm
          · exact HG.out.2 hm
          · exact hzk (List.mem_singleton.1 hm).symm
      · have i2 : ¬ (i : Int) < n := by omega
        have hni : key ∉ ks := by
          have := HG.out.2
          rwa [List.take_of_length_le (by have := HN.out; omega)] at this
        go_wp2_with fail
        go_ret
        exact ⟨by simp [hni], HF.out.trans HG.out.1⟩
  · clear h hl
    by_cases hk2 : ky = key
    · subst hk2
      by_cases h1 : kd = 1
      · subst h1
        cases ok
        all_goals
          go_enter Try.func51, Try.ntmps51
          go_wp2_with fail
          go_ret
          exact ⟨by simp, HF.out⟩
      · have h1b : ((kd : Int) == 1) = false := by simpa using h1
        cases ok
        all_goals
          go_enter Try.func51, Try.ntmps51
          go_wp2_with fail
          go_ret
          exact ⟨by simp [hk, h1], HF.out⟩
    · go_enter Try.func51, Try.ntmps51
      go_wp2_with fail
      go_ret
      exact ⟨by simp [hk, hk2], HF.out⟩
set_option maxHeartbeats 4000000 in
/-- misses. -/
theorem rmiss_any (c : Cl) (key : Int) (w : World) (h : c.R.At w) (hl : c.R.r.keys.length ≤ 1000000000000000000) : Calls Try.prog 52 #[c.V, vI key] w fun e w' => e = .returned (.bool (missB c key)) ∧ Fr (fun _ => False) w w' := by
  have HS : Hd (∀ W, Fr (fun _ => False) w W → Calls Try.prog 51 #[c.V, vI key] W fun e w' => e = .returned (.bool (seesB c key)) ∧ Fr (fun _ => False) W w') := fun W f =>
    rsees_any c key W (h.fr f) hl
  clear h hl
  unfold missB
  obtain ⟨B, hB⟩ : ∃ B, B = seesB c key := ⟨_, rfl⟩
  rw [← hB] at HS ⊢
  clear hB
  unfold Cl.V c9 at *
  obtain ⟨b, en, kd, ky, v, ⟨⟨ok, val, ks, vs⟩, kv, vv⟩⟩ := c
  simp only at *
  have HF : Hd (Fr (fun _ => False) w (w.alloc (.cells #[vI b, vI en, vI kd, vI ky, .string v, .bool ok, .string val, kv, vv] 61))) := (Fr.refl _ w).alloc _
  have hc := HS.out _ HF.out
  clear HS
  by_cases hk : kd = 3
  · subst hk
    go_enter Try.func52, Try.ntmps52
    go_wp2_with (go_at_call 51; refine hc.mono ?_; rintro _ w3 ⟨rfl, hf3⟩; have HF3 : Hd _ := hf3; clear hf3)
    go_ret
    exact ⟨by simp, HF.out.trans HF3.out⟩
  · by_cases hk2 : kd = 2
    · subst hk2
      by_cases hk3 : ky = key
      · subst hk3
        go_enter Try.func52, Try.ntmps52
        go_wp2_with fail
        go_ret
        exact ⟨by simp, HF.out⟩
      · have h1b : ((ky : Int) == key) = false := by simpa using hk3
        go_enter Try.func52, Try.ntmps52
        go_wp2_with fail
        go_ret
        exact ⟨by simp [hk3], HF.out⟩
    · go_enter Try.func52, Try.ntmps52
      go_wp2_with fail
      go_ret
      exact ⟨by simp [hk, hk2], HF.out⟩
end Go.Proofs.Ytihicdbplmdjiaa
