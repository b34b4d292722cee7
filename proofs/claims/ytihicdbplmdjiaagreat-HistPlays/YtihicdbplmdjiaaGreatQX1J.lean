import Derived.Test.YtihicdbplmdjiaaGreatQH1
import Derived.Test.YtihicdbplmdjiaaGreatQLa
import Derived.Test.YtihicdbplmdjiaaGreatQLbJ
import Derived.Test.YtihicdbplmdjiaaGreatQPlL3
set_option linter.unusedVariables false
set_option linter.unusedSimpArgs false
namespace Go.Proofs.YtihicdbplmdjiaaGreat

/-! ### the two plain maps are one -/
def toR (r : Pl.RepT) : RepT := ⟨r.ok, r.val, r.L⟩
theorem look_eq (t : List Kv) (k : Int) : Pl.look t k = look t k := rfl
theorem insK_eq : ∀ (t : List Kv) (k : Int) (v : ByteArray), Pl.insK t k v = insK t k v
  | [], k, v => rfl
  | e :: r, k, v => by unfold Pl.insK insK; rw [insK_eq r k v]
theorem doT_eq (t : List Kv) (o : OpT) : Pl.doT t o = doT t o := by
  unfold Pl.doT doT
  simp only [look_eq, insK_eq]
  split
  · cases look t o.2.1 <;> rfl
  · rfl
theorem foldT_eq : ∀ (os : List OpT) (t : List Kv), os.foldl Pl.doT t = os.foldl doT t
  | [], t => rfl
  | o :: os, t => by rw [List.foldl_cons, List.foldl_cons, doT_eq, foldT_eq os]
theorem tabOf_eq (os : List OpT) : Pl.tabOf os = tabOf os := foldT_eq os []
theorem doR_eq (t : List Kv) (o : OpT) : toR (Pl.doR t o) = doR t o := by
  unfold Pl.doR doR toR
  simp only [look_eq]
  split <;> (try split) <;> rfl

/-! ### what the table tells, as a history -/
def rplOf (r : Pl.RepT) : Rpl := ⟨r.ok, r.val, r.L.map (·.1), r.L.map (·.2)⟩
structure Tells (h : List Mo) (ms : List Pl.MomT) : Prop where
  len : h.length = ms.length
  look : ∀ (i : Nat) (m : Pl.MomT), ms[i]? = some m → ∃ R : RV, h[i]? = some ⟨m.c, m.beg, m.op.1, m.op.2.1, m.op.2.2, R⟩ ∧ R.r = rplOf m.rp
theorem zip_pairs : ∀ (L : List Kv), (L.map (·.1)).zip (L.map (·.2)) = L
  | [] => rfl
  | e :: r => by simp only [List.map_cons, List.zip_cons_cons, zip_pairs r]
theorem rise_keys : ∀ {t : List Kv}, Rise t → riseB (t.map (·.1)) = true
  | [], _ => rfl
  | [_], _ => rfl
  | a :: b :: l, h => by
    have hp := List.pairwise_cons.1 h
    have ih := rise_keys (t := b :: l) hp.2
    have h1 : a.1 < b.1 := hp.1 b List.mem_cons_self
    simp only [List.map_cons] at ih ⊢
    unfold riseB
    rw [ih]; simp [h1]
/-- The answer of the plain map is an answer. -/
theorem right_rep (os : List OpT) (o : OpT) (hk : o.1 = 1 ∨ o.1 = 2 ∨ o.1 = 3) : rightReplyB o.1 (rplOf (Pl.doR (Pl.tabOf os) o)) = true := by
  rw [tabOf_eq]
  unfold Pl.doR rplOf rightReplyB noKeysB emB
  rcases hk with h | h | h
  · rw [if_pos h]; simp [h]
  · rw [if_neg (show ¬ o.1 = 1 by omega), if_pos h]
    simp only [look_eq, h]
    cases e : YtihicdbplmdjiaaGreat.look (tabOf os) o.2.1 with
    | none => simp
    | some x => simp
  · rw [if_neg (show ¬ o.1 = 1 by omega), if_neg (show ¬ o.1 = 2 by omega)]
    simp [h, rise_keys (rise_tabOf os)]
theorem right_op {o : OpT} (hk : o.1 = 1 ∨ o.1 = 2 ∨ o.1 = 3) (h2 : o.1 ≠ 1 → o.2.2 = ⟨#[]⟩) (h3 : o.1 = 3 → o.2.1 = 0) : rightOpB o.1 o.2.1 o.2.2 = true := by
  unfold rightOpB emB
  rcases hk with h | h | h
  · simp [h]
  · rw [h2 (by omega)]; simp [h]
  · rw [h2 (by omega), h3 h]; simp [h]
theorem zero_rep : isZeroB (rplOf Pl.rep0) = true := by unfold isZeroB rplOf Pl.rep0 noKeysB emB; simp

/-- How many begin. -/
theorem begins_len (h : List Mo) : ∀ k, k ≤ h.length → (begins h k).length = ((h.take k).filter Mo.beg).length
  | 0, _ => rfl
  | k + 1, hk => by
    have ih := begins_len h k (by omega)
    have hg : h[k]? = some h[k] := List.getElem?_eq_getElem (by omega)
    rw [begins_snoc, List.length_append, ih, List.take_add_one, hg, List.filter_append, List.length_append, begAt_of hg]
    cases hb : (h[k]).beg <;> simp [hb]
theorem begs_same : ∀ {h : List Mo} {ms : List Pl.MomT}, h.map Mo.beg = ms.map Pl.MomT.beg → (h.filter Mo.beg).length = Pl.nBeg ms := by
  intro h ms e
  have h1 : (h.filter Mo.beg).length = (h.map Mo.beg).countP id := by rw [List.countP_map, List.countP_eq_length_filter]; rfl
  have h2 : Pl.nBeg ms = (ms.map Pl.MomT.beg).countP id := by unfold Pl.nBeg; rw [List.countP_map, List.countP_eq_length_filter]; rfl
  rw [h1, h2, e]
theorem Tells.begs {h : List Mo} {ms : List Pl.MomT} (x : Tells h ms) : h.map Mo.beg = ms.map Pl.MomT.beg := by
  apply List.ext_getElem?
  intro i
  rw [List.getElem?_map, List.getElem?_map]
  cases e : ms[i]? with
  | none =>
    have := List.getElem?_eq_none_iff.1 e
    rw [List.getElem?_eq_none (by rw [x.len]; exact this)]; rfl
  | some m =>
    obtain ⟨R, h1, -⟩ := x.look i m e
    rw [h1]; rfl
theorem beg_end (ms : List Pl.MomT) : Pl.nBeg ms + Pl.nEnd ms = ms.length := by
  unfold Pl.nBeg Pl.nEnd
  induction ms with
  | nil => rfl
  | cons m r ih => cases hb : m.beg <;> simp [hb] <;> omega

/-- What is known of a play's end. -/
structure Ended (cl : List (List OpT)) (s : Pl.St) (acs : List Pl.ActT) : Prop where
  lin : Pl.Lin cl s acs
  able : Pl.able s = []
  zero : ∀ m ∈ s.ms, m.beg = true → m.rp = Pl.rep0
  ops : ∀ l ∈ cl, ∀ o ∈ l, (o.1 ≠ 1 → o.2.2 = ⟨#[]⟩) ∧ (o.1 = 3 → o.2.1 = 0)
theorem Ended.hist {cl : List (List OpT)} {s : Pl.St} {acs : List Pl.ActT} (x : Ended cl s acs) : Pl.Hist cl s.ms := x.lin.inv.hist_end x.able
theorem Ended.op {cl : List (List OpT)} {s : Pl.St} {acs : List Pl.ActT} (x : Ended cl s acs) {i : Nat} {m : Pl.MomT} (h : s.ms[i]? = some m) (hb : m.beg = true) :
    (m.op.1 = 1 ∨ m.op.1 = 2 ∨ m.op.1 = 3) ∧ rightOpB m.op.1 m.op.2.1 m.op.2.2 = true := by
  have hc := x.hist.who i m h
  have hl : cl[m.c]? = some cl[m.c] := List.getElem?_eq_getElem hc
  have ha := x.hist.all _ _ hl
  have hm : m.op ∈ Pl.begOps s.ms m.c := by
    unfold Pl.begOps
    exact List.mem_map.2 ⟨m, List.mem_filter.2 ⟨List.mem_of_getElem? h, by simp [hb]⟩, rfl⟩
  rw [← ha] at hm
  have h1 := List.mem_filter.1 hm
  have hk : m.op.1 = 1 ∨ m.op.1 = 2 ∨ m.op.1 = 3 := by
    have := h1.2
    unfold Pl.knw Pl.known at this
    simp only [Bool.or_eq_true, beq_iff_eq] at this
    omega
  have h2 := x.ops _ (List.getElem_mem hc) _ h1.1
  exact ⟨hk, right_op hk h2.1 h2.2⟩
theorem em_rfl (a : ByteArray) : a.toList = a.toList := rfl

/-- The calls of what the table tells, and their order. -/
theorem Ended.calls {cl : List (List OpT)} {s : Pl.St} {acs : List Pl.ActT} (x : Ended cl s acs) {h : List Mo} (ht : Tells h s.ms) (hn : Pl.nBeg s.ms ≤ 64) :
    ∃ cs L : List Cl, RefOk h cs ∧ Val cs L ∧ ∀ c ∈ cs, c ∈ L := by
  obtain ⟨hf, hg⟩ := x.lin.over x.able
  obtain ⟨kf, hkf⟩ : ∃ kf : Pl.ActT → Nat, ∀ A ∈ acs, Pl.Own2 s.ms A.i (kf A) A := by
    have : ∀ A : Pl.ActT, ∃ k, A ∈ acs → Pl.Own2 s.ms A.i k A := fun A => by
      by_cases hA : A ∈ acs
      · obtain ⟨k, hk⟩ := hf A hA
        exact ⟨k, fun _ => hk⟩
      · exact ⟨0, fun h => absurd h hA⟩
    exact Classical.axiomOfChoice this
  obtain ⟨f, ef⟩ : ∃ f : Pl.ActT → Cl, f = fun A => ⟨A.i, kf A, A.op.1, A.op.2.1, A.op.2.2, (h[kf A]?.map Mo.R).getD rv0⟩ := ⟨_, rfl⟩
  have hfb : ∀ A, (f A).b = A.i := fun A => by rw [ef]
  have hfR : ∀ A ∈ acs, Right h A.i (f A) ∧ repT (f A) = toR A.rp ∧ opT (f A) = A.op := fun A hA => by
    obtain ⟨m, m', a1, a2, a3, a4, a5, a6, a7, a8, a9⟩ := hkf A hA
    obtain ⟨R, b1, b2⟩ := ht.look _ _ a1
    obtain ⟨R', c1, c2⟩ := ht.look _ _ a7
    obtain ⟨hk, hro⟩ := x.op a1 a2
    obtain ⟨s1, s2, s3⟩ := a6.same _ _ a1 a7
    have er : (f A).R = R' := by rw [ef]; simp [c1]
    obtain ⟨ia, hia⟩ := List.mem_iff_getElem?.1 hA
    have hrp : A.rp = Pl.doR (Pl.tabOf ((acs.take ia).map Pl.ActT.op)) A.op := x.lin.legal ia A hia
    refine ⟨⟨⟨m.c, m.beg, m.op.1, m.op.2.1, m.op.2.2, R⟩, ⟨m'.c, m'.beg, m'.op.1, m'.op.2.1, m'.op.2.2, R'⟩, ?_⟩, ?_, ?_⟩
    · exact {
        b := hfb A
        hm := b1
        beg := a2
        op := hro
        zero := by show isZeroB R.r = true; rw [b2, x.zero m (List.mem_of_getElem? a1) a2]; exact zero_rep
        kd := by rw [ef, a4]
        ky := by rw [ef, a4]
        v := by rw [ef, a4]
        lt := by rw [ef]; exact a6.lt
        e := by rw [ef]; exact c1
        cl := by show (m'.c : Int) = m.c; rw [s1]
        no := fun j h1 h2 y hy => by
          have h2' : j < kf A := by rw [ef] at h2; exact h2
          have hj : j < s.ms.length := by have := a6.hk; omega
          obtain ⟨R2, d1, -⟩ := ht.look j _ (List.getElem?_eq_getElem hj)
          rw [d1] at hy
          cases hy
          have := a6.none j _ _ h1 h2' a1 (List.getElem?_eq_getElem hj)
          show ((s.ms[j].c : Nat) : Int) ≠ m.c
          omega
        en := s2
        same := by
          unfold sameOp
          rw [ef]
          simp [s3, a4]
        rep := by
          show rightReplyB m.op.1 R'.r = true
          rw [c2, a8, hrp, a4]
          exact right_rep _ _ (by rw [← a4]; exact hk)
        R := er }
    · unfold repT toR
      rw [er, c2, a8]
      unfold rplOf
      simp only [zip_pairs]
    · rw [ef]
  have hbs : ∀ i, i ∈ begins h h.length ↔ ∃ A ∈ acs, A.i = i := fun i => by
    unfold begins
    rw [List.mem_filter, List.mem_range]
    constructor
    · rintro ⟨h1, h2⟩
      have hm : s.ms[i]? = some (s.ms[i]'(by rw [← ht.len]; exact h1)) := List.getElem?_eq_getElem _
      obtain ⟨R, b1, -⟩ := ht.look i _ hm
      rw [begAt_of b1] at h2
      exact hg i _ hm h2
    · rintro ⟨A, hA, rfl⟩
      obtain ⟨m, m', a1, a2, -⟩ := hkf A hA
      obtain ⟨R, b1, -⟩ := ht.look _ _ a1
      refine ⟨(List.getElem?_eq_some_iff.1 b1).1, ?_⟩
      rw [begAt_of b1]; exact a2
  obtain ⟨g, hgA⟩ : ∃ g : Nat → Cl, ∀ i, i ∈ begins h h.length → ∃ A ∈ acs, A.i = i ∧ g i = f A := by
    have : ∀ i : Nat, ∃ c : Cl, i ∈ begins h h.length → ∃ A ∈ acs, A.i = i ∧ c = f A := fun i => by
      by_cases hi : i ∈ begins h h.length
      · obtain ⟨A, hA, e⟩ := (hbs i).1 hi
        exact ⟨f A, fun _ => ⟨A, hA, e, rfl⟩⟩
      · exact ⟨⟨0, 0, 0, 0, ⟨#[]⟩, rv0⟩, fun h => absurd h hi⟩
    exact Classical.axiomOfChoice this
  have hnd : ∀ A ∈ acs, ∀ A' ∈ acs, A.i = A'.i → A = A' := fun A hA A' hA' e => by
    obtain ⟨a, ha, rfl⟩ := List.getElem_of_mem hA
    obtain ⟨b, hb, rfl⟩ := List.getElem_of_mem hA'
    have : a = b := Pl.nd_inj x.lin.nd (a := a) (b := b) (ha := by simpa using ha) (hb := by simpa using hb) (by simpa using e)
    subst this; rfl
  have hbl : (begins h h.length).length = Pl.nBeg s.ms := by
    rw [begins_len h _ (Nat.le_refl _), List.take_length]
    exact begs_same ht.begs
  refine ⟨(begins h h.length).map g, acs.map f, ⟨by omega, ?_, ?_, ?_⟩, ⟨?_, ?_⟩, ?_⟩
  · rw [List.map_map]
    conv => rhs; rw [← List.map_id (begins h h.length)]
    refine List.map_congr_left fun i hi => ?_
    obtain ⟨A, hA, e, eg⟩ := hgA i hi
    show (g i).b = i
    rw [eg, hfb, e]
  · intro c hc
    obtain ⟨i, hi, rfl⟩ := List.mem_map.1 hc
    obtain ⟨A, hA, e, eg⟩ := hgA i hi
    rw [eg, hfb]
    exact (hfR A hA).1
  · have h1 := both_len h h.length
    have h2 := beg_end s.ms
    have h3 := x.hist.cnt
    have h4 := ht.len
    rw [List.length_map]
    omega
  · intro c hc
    obtain ⟨A, hA, rfl⟩ := List.mem_map.1 hc
    have hi := (hbs A.i).2 ⟨A, hA, rfl⟩
    obtain ⟨A', hA', e, eg⟩ := hgA A.i hi
    refine List.mem_map.2 ⟨A.i, hi, ?_⟩
    rw [eg, hnd A' hA' A hA e]
  · intro us c bs e
    obtain ⟨l1, l2, e1, e2, e3⟩ := List.map_eq_append_iff.1 e
    obtain ⟨A, l3, e4, e5, e6⟩ := List.map_eq_cons_iff.1 e3
    subst e2 e5
    have hA : A ∈ acs := by rw [e1, e4]; simp
    have hget : acs[l1.length]? = some A := by rw [e1, e4]; simp
    have htk : acs.take l1.length = l1 := by rw [e1]; simp
    unfold fitsB
    rw [Bool.and_eq_true]
    refine ⟨?_, ?_⟩
    · rw [List.all_eq_true]
      intro d hd
      obtain ⟨D, hD, rfl⟩ := List.mem_map.1 hd
      have hDA : D ∈ acs := by rw [e1]; exact List.mem_append_left _ hD
      obtain ⟨p, hp, rfl⟩ := List.getElem_of_mem hD
      have hgp : acs[p]? = some l1[p] := by rw [e1, List.getElem?_append_left hp, List.getElem?_eq_getElem hp]
      have hmono := Pl.pw_get x.lin.mono hp hgp hget
      obtain ⟨m, m', a1, a2, a3, a4, a5, a6, a7, a8, a9⟩ := hkf A hA
      obtain ⟨n, n', b1, b2, b3, b4, b5, b6, b7, b8, b9⟩ := hkf _ hDA
      have hne : (l1[p]).i ≠ A.i := fun e9 => by
        have := Pl.nd_inj x.lin.nd (a := p) (b := l1.length) (ha := by rw [List.length_map]; exact (List.getElem?_eq_some_iff.1 hgp).1) (hb := by rw [List.length_map]; exact (List.getElem?_eq_some_iff.1 hget).1) (by
          rw [List.getElem_map, List.getElem_map, (List.getElem?_eq_some_iff.1 hgp).2, (List.getElem?_eq_some_iff.1 hget).2]; exact e9)
        omega
      have hce : (f A).e = kf A := by rw [ef]
      rw [hfb, hfb, hce]
      simp only [Bool.and_eq_true, Bool.not_eq_true', decide_eq_false_iff_not]
      exact ⟨hne, by omega⟩
    · rw [repB_iff]
      obtain ⟨-, q2, q3⟩ := hfR A hA
      rw [q2, q3]
      have : (l1.map f).map opT = l1.map Pl.ActT.op := by
        rw [List.map_map]
        refine List.map_congr_left fun D hD => ?_
        exact (hfR D (by rw [e1]; exact List.mem_append_left _ hD)).2.2
      rw [this, x.lin.legal _ A hget, htk, ← tabOf_eq, doR_eq]
  · intro c hc
    obtain ⟨i, hi, rfl⟩ := List.mem_map.1 hc
    obtain ⟨A, hA, e, eg⟩ := hgA i hi
    rw [eg]
    exact List.mem_map.2 ⟨A, hA, rfl⟩
end Go.Proofs.YtihicdbplmdjiaaGreat
