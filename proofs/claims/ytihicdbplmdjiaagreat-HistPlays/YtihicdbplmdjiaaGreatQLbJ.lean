import Derived.Test.YtihicdbplmdjiaaGreatQLa
import Derived.Test.YtihicdbplmdjiaaGreatQH1
import Derived.Test.YtihicdbplmdjiaaGreatQH3
set_option linter.unusedVariables false
set_option linter.unusedSimpArgs false
namespace Go.Proofs.YtihicdbplmdjiaaGreat

/-! ### trying all orders -/
def bI (cs : List Cl) (i : Nat) : Int := ((cs.getD i clZ).b : Int)
theorem getD_is {cs : List Cl} {i : Nat} (hi : i < cs.length) : cs.getD i clZ = cs[i] := by rw [List.getD_eq_getElem?_getD, List.getElem?_eq_getElem hi]; rfl
theorem bI_is {cs : List Cl} {i : Nat} (hi : i < cs.length) : bI cs i = (cs[i].b : Int) := by unfold bI; rw [getD_is hi]
theorem some_bit {x : Nat} (h : x ≠ 0) : ∃ i, x.testBit i = true := by
  apply Classical.byContradiction
  intro hn
  apply h
  apply Nat.eq_of_testBit_eq
  intro i
  rw [Nat.zero_testBit]
  cases e : x.testBit i with
  | false => rfl
  | true => exact absurd ⟨i, e⟩ hn
theorem idx_inj {cs : List Cl} (hb : (cs.map Cl.b).Pairwise (· < ·)) {i j : Nat} (hi : i < cs.length) (hj : j < cs.length) (e : cs[i] = cs[j]) : i = j := by
  have hp := List.pairwise_iff_getElem.1 hb
  rcases Nat.lt_trichotomy i j with hl | hl | hl
  · have := hp i j (by simpa using hi) (by simpa using hj) hl
    simp only [List.getElem_map, e] at this; omega
  · exact hl
  · have := hp j i (by simpa using hj) (by simpa using hi) hl
    simp only [List.getElem_map, e] at this; omega
theorem bI_inj {cs : List Cl} (hb : (cs.map Cl.b).Pairwise (· < ·)) {i j : Nat} (hi : i < cs.length) (hj : j < cs.length) (e : bI cs i = bI cs j) : i = j := by
  rw [bI_is hi, bI_is hj] at e
  exact idx_inj hb hi hj (b_inj hb (List.getElem_mem hi) (List.getElem_mem hj) (by omega))
/-- Where one is left that waits for nothing, there is a least one. -/
theorem free_not {left : Nat} {ws : List Nat} {j : Nat} (hj : left.testBit j = true) (h : freeB left ws j = false) : ∃ m, left.testBit m = true ∧ (ws.getD j 0).testBit m = true := by
  unfold freeB at h
  rw [hj, Bool.true_and, decide_eq_false_iff_not] at h
  obtain ⟨m, hm⟩ := some_bit h
  rw [Nat.testBit_and, Bool.and_eq_true] at hm
  exact ⟨m, hm⟩
theorem least_before {left : Nat} {ws : List Nat} {i : Nat} (h : leastX left ws = some i) : ∀ j, j < i → freeB left ws j = false := by
  unfold leastX at h
  rw [List.find?_eq_some_iff_append] at h
  obtain ⟨-, us, bs, e, hn⟩ := h
  intro j hj
  have hl : us.length = i := by
    have h1 : (List.range ws.length)[us.length]? = some i := by rw [e, List.getElem?_append_right (Nat.le_refl _), Nat.sub_self]; rfl
    obtain ⟨h2, h3⟩ := List.getElem?_eq_some_iff.1 h1
    rw [List.getElem_range] at h3
    exact h3
  have hm : j ∈ us := by
    have h1 : (List.range ws.length)[j]? = us[j]? := by rw [e, List.getElem?_append_left (by omega)]
    have hja : us[j]? = some us[j] := List.getElem?_eq_getElem (by omega)
    rw [hja] at h1
    obtain ⟨h2, h3⟩ := List.getElem?_eq_some_iff.1 h1
    rw [List.getElem_range] at h3
    rw [h3]; exact List.getElem_mem _
  have := hn j hm
  simpa using this
theorem ord_some {cs L : List Cl} (hl : cs.length ≤ 64) (hb : (cs.map Cl.b).Pairwise (· < ·)) (hs : Seq cs L) {left : Nat} {acc : List Nat} {r : Option (List Nat)} (h : Ord (waitsX cs) left acc r) : left < 18446744073709551616 → (∀ j, left.testBit j = true → j < cs.length) → r ≠ none := by
  induction h with
  | done acc => intro _ _ e; cases e
  | stuck left acc h0 h1 =>
    intro hlt hbn _
    obtain ⟨j0, hj0⟩ := some_bit h0
    obtain ⟨L', eL⟩ : ∃ L', L' = L.filter (fun c => (List.range cs.length).any (fun j => left.testBit j && decide ((cs.getD j clZ).b = c.b))) := ⟨_, rfl⟩
    have hin : ∀ j, left.testBit j = true → ∀ (hj : j < cs.length), cs[j] ∈ L' := fun j hj hjn => by
      rw [eL, List.mem_filter]
      refine ⟨hs.all _ (List.getElem_mem hjn), ?_⟩
      rw [List.any_eq_true]
      exact ⟨j, List.mem_range.2 hjn, by rw [getD_is hjn, hj]; simp⟩
    have hpw : L'.Pairwise (fun a b => precB b a = false) := by rw [eL]; exact hs.pw.filter _
    cases hc : L' with
    | nil =>
      have := hin j0 hj0 (hbn j0 hj0)
      rw [hc] at this; cases this
    | cons c rest =>
      have hcm : c ∈ L' := by rw [hc]; exact List.mem_cons_self
      rw [eL, List.mem_filter, List.any_eq_true] at hcm
      obtain ⟨hcL, m, hm, hmb⟩ := hcm
      have hmn := List.mem_range.1 hm
      rw [Bool.and_eq_true, decide_eq_true_eq, getD_is hmn] at hmb
      have hce : cs[m] = c := b_inj hb (List.getElem_mem hmn) (hs.sub c hcL) hmb.2
      have hnf : freeB left (waitsX cs) m = false := by
        unfold leastX at h1
        have := List.find?_eq_none.1 h1 m (by rw [waitsX_len]; exact hm)
        simpa using this
      obtain ⟨j, hj1, hj2⟩ := free_not hmb.1 hnf
      have hjn := hbn j hj1
      rw [waits_bit hl hmn hjn] at hj2
      simp only [Bool.and_eq_true, decide_eq_true_eq] at hj2
      have hjL := hin j hj1 hjn
      rw [hc] at hjL hpw
      rcases List.mem_cons.1 hjL with e | e
      · exact hj2.1 (idx_inj hb hjn hmn (e.trans hce.symm))
      · have := (List.pairwise_cons.1 hpw).1 _ e
        rw [← hce, hj2.2] at this
        cases this
  | step left i acc r h0 h1 h2 ih =>
    intro hlt hbn
    obtain ⟨hbi, hi⟩ := leastX_bit h1
    rw [waitsX_len] at hi
    refine ih (dropS_lt i hlt) fun j hj => ?_
    rw [dropS_bit j hlt (by omega), Bool.and_eq_true] at hj
    exact hbn j hj.1
def tryL (f : List Int → List Int) (head : List Int) : List Cl → List Int
  | [] => []
  | c :: r => if (c.b : Int) ∈ head then tryL f head r else if f (head ++ [(c.b : Int)]) = [] then tryL f head r else f (head ++ [(c.b : Int)])
/-- What tried tells. -/
def triedX (cs : List Cl) : Nat → List Int → List Int
  | 0, head => if playedX cs head then head else []
  | k + 1, head => tryL (triedX cs k) head cs
theorem tryL_is {f : List Int → List Int} {head : List Int} : ∀ {l : List Cl}, tryL f head l ≠ [] → ∃ c ∈ l, (c.b : Int) ∉ head ∧ f (head ++ [(c.b : Int)]) ≠ [] ∧ tryL f head l = f (head ++ [(c.b : Int)])
  | [], h => absurd rfl h
  | c :: r, h => by
    unfold tryL at h ⊢
    by_cases h1 : (c.b : Int) ∈ head
    · rw [if_pos h1] at h ⊢
      obtain ⟨d, hd, q⟩ := tryL_is h
      exact ⟨d, List.mem_cons_of_mem _ hd, q⟩
    · rw [if_neg h1] at h ⊢
      by_cases h2 : f (head ++ [(c.b : Int)]) = []
      · rw [if_pos h2] at h ⊢
        obtain ⟨d, hd, q⟩ := tryL_is h
        exact ⟨d, List.mem_cons_of_mem _ hd, q⟩
      · rw [if_neg h2] at h ⊢
        exact ⟨c, List.mem_cons_self, h1, h2, rfl⟩
theorem tryL_at {f : List Int → List Int} {head res : List Int} : ∀ {l : List Cl} {i : Nat} (hi : i < l.length), (∀ j (hj : j < i), (l[j].b : Int) ∈ head ∨ f (head ++ [(l[j].b : Int)]) = []) → (l[i].b : Int) ∉ head → f (head ++ [(l[i].b : Int)]) = res → res ≠ [] → tryL f head l = res
  | [], i, hi, _, _, _, _ => absurd hi (by simp)
  | c :: r, 0, _, _, h1, h2, h3 => by
    unfold tryL
    simp only [List.getElem_cons_zero] at h1 h2
    rw [if_neg h1, h2, if_neg h3]
  | c :: r, i + 1, hi, h0, h1, h2, h3 => by
    unfold tryL
    have hc := h0 0 (by omega)
    simp only [List.getElem_cons_zero] at hc
    have ih : tryL f head r = res := tryL_at (by simpa using hi) (fun j hj => by have := h0 (j + 1) (by omega); simpa using this) (by simpa using h1) (by simpa using h2) h3
    by_cases h4 : (c.b : Int) ∈ head
    · rw [if_pos h4]; exact ih
    · rw [if_neg h4, if_pos (by rcases hc with hc | hc; exact absurd hc h4; exact hc)]; exact ih
theorem tried_played (cs : List Cl) : ∀ k head, triedX cs k head ≠ [] → playedX cs (triedX cs k head) = true ∧ ∃ r, triedX cs k head = head ++ r
  | 0, head, h => by
    unfold triedX at h ⊢
    by_cases hp : playedX cs head = true
    · rw [if_pos hp]; exact ⟨hp, [], by simp⟩
    · rw [if_neg hp] at h; exact absurd rfl h
  | k + 1, head, h => by
    unfold triedX at h ⊢
    obtain ⟨c, -, -, h2, h3⟩ := tryL_is h
    obtain ⟨q1, r, q2⟩ := tried_played cs k _ h2
    rw [h3]
    exact ⟨q1, [(c.b : Int)] ++ r, by rw [q2, List.append_assoc]⟩
/-- What is played is an order. -/
theorem played_val {cs : List Cl} (hb : (cs.map Cl.b).Pairwise (· < ·)) {os : List Int} (h : playedX cs os = true) : ∃ L : List Cl, os = L.map (fun c => (c.b : Int)) ∧ Val cs L ∧ ∀ c ∈ cs, c ∈ L := by
  unfold playedX at h
  rw [Bool.and_eq_true, decide_eq_true_eq] at h
  obtain ⟨L, h1, h2, h3⟩ := play_val os [] h.2
  have hv : Val cs L := ⟨h2, fun us c bs e => by have := h3 us c bs e; simpa using this⟩
  refine ⟨L, h1, hv, fun c hc => ?_⟩
  apply Classical.byContradiction
  intro hn
  have hnd : (L.map Cl.b).Nodup := by
    unfold List.Nodup
    rw [List.pairwise_map, List.pairwise_iff_getElem]
    intro i j hi hj hij
    have e : L = L.take j ++ L[j] :: L.drop (j + 1) := by rw [List.getElem_cons_drop]; exact (List.take_append_drop j L).symm
    exact (hv.clk e (by rw [List.mem_take_iff_getElem]; exact ⟨i, by omega, rfl⟩)).1
  have hcn : c.b ∉ L.map Cl.b := fun hm => by
    obtain ⟨d, hd, e⟩ := List.mem_map.1 hm
    have := b_inj hb (h2 d hd) hc e
    subst this
    exact hn hd
  have := len_sub (l1 := c.b :: L.map Cl.b) (l2 := cs.map Cl.b) (List.nodup_cons.2 ⟨hcn, hnd⟩) (fun x hx => by
    rcases List.mem_cons.1 hx with rfl | hx
    · exact List.mem_map_of_mem hc
    · obtain ⟨d, hd, rfl⟩ := List.mem_map.1 hx
      exact List.mem_map_of_mem (h2 d hd))
  have hlen := h.1
  rw [h1] at hlen
  simp at this hlen
  omega
end Go.Proofs.YtihicdbplmdjiaaGreat
namespace Go.Proofs.YtihicdbplmdjiaaGreat
open Go.RowKit (wrap32 wrap64)

/-! ### no history -/
theorem none_of {h : List Mo} (x : ∀ cs, RefOk h cs → False) : callsX h = none := by
  cases e : callsX h with
  | none => rfl
  | some cs => exact (x cs (calls_ref e)).elim
theorem none_many {h : List Mo} (x : 64 < (begins h h.length).length) : callsX h = none := none_of fun cs r => by have := r.le; omega
theorem none_begin {h : List Mo} {i : Nat} {m : Mo} (e : h[i]? = some m) (hb : m.beg = true) (x : (rightOpB m.kd m.ky m.v && isZeroB m.R.r) = false) : callsX h = none := none_of fun cs r => by
  obtain ⟨c, n, n', q⟩ := r.at e hb
  have e1 : n = m := by have := q.hm.symm.trans e; simpa using this
  subst e1
  rw [q.op, q.zero] at x
  cases x
def sameM (m m' : Mo) : Bool := decide (m'.kd = m.kd ∧ m'.ky = m.ky ∧ m'.v.toList = m.v.toList)
theorem end_at {h : List Mo} {i k : Nat} {m m' : Mo} {c : Cl} (r : Right h i c) (e : h[i]? = some m) (hik : i < k) (ek : h[k]? = some m') (hc : m'.c = m.c) (hno : NoM h m.c i k) : RightB h i c m m' ∧ c.e = k := by
  obtain ⟨n, n', q⟩ := r
  have e1 : n = m := by have := q.hm.symm.trans e; simpa using this
  subst e1
  have he : c.e = k := by
    rcases Nat.lt_trichotomy c.e k with hl | hl | hl
    · exact absurd q.cl (hno c.e q.lt hl n' q.e)
    · exact hl
    · exact absurd hc (q.no k hik hl m' ek)
  have e2 : n' = m' := by have := q.e.symm.trans (he ▸ ek); simpa using this
  subst e2
  exact ⟨q, he⟩
theorem none_end {h : List Mo} {i k : Nat} {m m' : Mo} (e : h[i]? = some m) (hb : m.beg = true) (hik : i < k) (ek : h[k]? = some m') (hc : m'.c = m.c) (hno : NoM h m.c i k) (x : (!m'.beg && sameM m m' && rightReplyB m.kd m'.R.r) = false) : callsX h = none := none_of fun cs r => by
  obtain ⟨c, q0⟩ := r.at e hb
  obtain ⟨q, -⟩ := end_at q0 e hik ek hc hno
  have h1 : sameM m m' = true := by
    have := q.same
    unfold sameOp at this
    unfold sameM
    rw [← q.kd, ← q.ky, ← q.v]
    exact this
  rw [q.en, h1, q.rep] at x
  cases x
theorem right_of {h : List Mo} {i k : Nat} {m m' : Mo} (e : h[i]? = some m) (hb : m.beg = true) (ho : rightOpB m.kd m.ky m.v = true) (hz : isZeroB m.R.r = true) (hik : i < k) (ek : h[k]? = some m') (hc : m'.c = m.c) (hno : NoM h m.c i k) (h1 : m'.beg = false) (h2 : sameM m m' = true) (h3 : rightReplyB m.kd m'.R.r = true) : Right h i ⟨i, k, m.kd, m.ky, m.v, m'.R⟩ :=
  ⟨m, m', ⟨rfl, e, hb, ho, hz, rfl, rfl, rfl, hik, ek, hc, hno, h1, h2, h3, rfl⟩⟩
theorem none_open {h : List Mo} {i : Nat} {m : Mo} (e : h[i]? = some m) (hb : m.beg = true) (hno : NoM h m.c i h.length) : callsX h = none := none_of fun cs r => by
  obtain ⟨c, n, n', q⟩ := r.at e hb
  have e1 : n = m := by have := q.hm.symm.trans e; simpa using this
  subst e1
  exact hno c.e q.lt (List.getElem?_eq_some_iff.1 q.e).1 n' q.e q.cl
theorem none_ends {h : List Mo} {cs : List Cl} (bs : cs.map Cl.b = begins h h.length) (x : (endsOf h h.length).length ≠ cs.length) : callsX h = none := none_of fun ds r => by
  have h1 := congrArg List.length bs
  have h2 := congrArg List.length r.bs
  have h3 := r.ends
  simp only [List.length_map] at h1 h2
  omega
theorem calls_at {h : List Mo} {cs : List Cl} (r : RefOk h cs) {w : World} (hm : ∀ m ∈ h, m.R.At w) : ∀ c ∈ cs, c.R.At w := fun c hc => by
  obtain ⟨m, m', q⟩ := r.each c hc
  rw [q.R]
  exact hm m' (List.mem_of_getElem? q.e)

/-! ### the document's calls in a row of one's own -/
theorem und39 : Tryz.prog.underlying 63 = some (.slice 70) := by kernel_rfl
theorem info61 : (Tryz.prog.info? 70).map (fun i => (i.zero, i.size, i.bytes)) = some (some (.agg #[vI 0, vI 0, vI 0, vI 0, .string ⟨#[]⟩, .bool false, .string ⟨#[]⟩, .slice none 0 0, .slice none 0 0]), 9, 120) := by kernel_rfl
def ROwn (w : World) (B : Nat) (v : Value) (cs : List Cl) : Prop := w.ownsRow B 70 9 v cs.length ((cs.map c9).flatten)
theorem ROwn.fr {S : Nat → Prop} {w w' : World} {B : Nat} {v : Value} {cs : List Cl} (h : ROwn w B v cs) (f : Fr S w w') (hS : ∀ j, v.ownBlock = some j → ¬ S j) : ROwn w' B v cs := ownsRow_fr h f hS
theorem ROwn.val {w : World} {B : Nat} {v : Value} {cs : List Cl} (h : ROwn w B v cs) : ∃ ad cap, v = .slice ad cs.length cap := by
  rcases h.2 with ⟨e1, e2⟩ | ⟨g, cap, cur, e, -⟩
  · exact ⟨none, 0, by rw [e1, e2]⟩
  · exact ⟨_, cap, e⟩
theorem ROwn.cells {w : World} {B : Nat} {v : Value} {cs : List Cl} (h : ROwn w B v cs) (hne : cs ≠ []) : ∃ g cap, v = .slice (some ⟨g, 0, none⟩) cs.length cap ∧ B ≤ g ∧ g < w.heap.size ∧ ∀ i (hi : i < cs.length) j, j < 9 → w.cell? ⟨g, i * 9 + j, none⟩ = (c9 cs[i])[j]? := by
  rcases h.2 with ⟨e1, e2⟩ | ⟨g, cap, cur, e, b1, b2, b3, b4, b5, b6⟩
  · exact absurd (List.eq_nil_of_length_eq_zero e2) hne
  · refine ⟨g, cap, e, b1, heap_lt b2, fun i hi j hj => ?_⟩
    rw [cell_of b2]
    have e1 : cur[i * 9 + j]? = ((cs.map c9).flatten)[i * 9 + j]? := by rw [← b6, List.getElem?_take, if_pos (by omega), Array.getElem?_toList]
    rw [e1, flat_get (fun r hr => by obtain ⟨c, -, rfl⟩ := List.mem_map.1 hr; rfl) i j (by simpa using hi) hj, List.getElem_map]
theorem ROwn.app {w : World} {B : Nat} {v : Value} {cs : List Cl} (h : ROwn w B v cs) (hB : B ≤ w.heap.size) (c : Cl) (hk : ∃ a n q, c.R.kv = .slice a n q) (hv : ∃ a n q, c.R.vv = .slice a n q) (hl : cs.length ≤ 4000000000) :
    ∃ g cap w2, (Builtin.append_ #[63, 63] 63 #[v, .slice (some ⟨w.heap.size, 0, none⟩) 1 1]).run Tryz.prog (w.alloc (.cells (c9 c).toArray 70)) = .ok (.slice (some ⟨g, 0, none⟩) (cs.length + 1) cap) w2 ∧ ROwn w2 B (.slice (some ⟨g, 0, none⟩) (cs.length + 1) cap) (cs ++ [c]) ∧ Fr (fun j => v.ownBlock = some j) w w2 ∧ (v.ownBlock = some g ∨ g = w.heap.size + 1) := by
  obtain ⟨a1, n1, q1, e1⟩ := hk
  obtain ⟨a2, n2, q2, e2⟩ := hv
  obtain ⟨g, cap, w2, h1, h2, h3, h4⟩ := app1 und39 info61 rfl (by omega) h (c9 c).toArray rfl (by
    intro u hu
    unfold c9 at hu
    rw [e1, e2] at hu
    simp at hu
    rcases hu with rfl | rfl | rfl | rfl | rfl | rfl | rfl | rfl | rfl <;> rfl) (by unfold maxLen; omega) (by omega) hB
  refine ⟨g, cap, w2, h1, ?_, h3, h4⟩
  unfold ROwn
  rw [List.length_append, List.map_append, List.flatten_append]
  simpa using h2
theorem five_set {w : World} {b t : Nat} {x0 x1 x2 x3 x4 x5 x6 x7 x8 : Value} (h : w.heap[b]? = some (.cells #[x0, x1, x2, x3, x4, x5, x6, x7, x8] t)) (a1 a5 a6 a7 a8 : Value) :
    (((((w.setCell ⟨b, 1, none⟩ a1).setCell ⟨b, 5, none⟩ a5).setCell ⟨b, 6, none⟩ a6).setCell ⟨b, 7, none⟩ a7).setCell ⟨b, 8, none⟩ a8).heap[b]? = some (.cells #[x0, a1, x2, x3, x4, a5, a6, a7, a8] t) :=
  set_of (set_of (set_of (set_of (set_of h 1 a1) 5 a5) 6 a6) 7 a7) 8 a8
/-- What the document's Calls tells. -/
def RcE (h : List Mo) (w w' : World) (lv : Value) (ok : Bool) : Prop :=
  (callsX h = none ∧ ok = false) ∨ ∃ cs, callsX h = some cs ∧ ok = true ∧ ROwn w' w.heap.size lv cs ∧ ∀ c ∈ cs, c.R.At w
def RcR (h : List Mo) (w : World) (e : Ending) (w' : World) : Prop := ∃ lv ok, e = .returned (.tuple #[lv, .bool ok]) ∧ Fr (fun _ => False) w w' ∧ RcE h w w' lv ok
/-- The call that is being made: as long as its end isn't found, and behind. -/
structure Mk0 (h : List Mo) (i k : Nat) (m : Mo) (x : Int) (r : RV) : Prop where
  hm : h[i]? = some m
  lt : i < k
  st : (x = -1 ∧ r = rv0 ∧ NoM h m.c i k) ∨ ∃ e : Nat, x = e ∧ Right h i ⟨i, e, m.kd, m.ky, m.v, r⟩
end Go.Proofs.YtihicdbplmdjiaaGreat
