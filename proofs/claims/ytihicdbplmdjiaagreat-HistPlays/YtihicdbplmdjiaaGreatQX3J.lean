import Derived.Test.YtihicdbplmdjiaaGreatQX1J
import Derived.Test.YtihicdbplmdjiaaGreatQEaJ
set_option linter.unusedVariables false
set_option linter.unusedSimpArgs false
namespace Go.Proofs.YtihicdbplmdjiaaGreat

/-- What Order tells of a history with calls that have an order. -/
theorem told_order {h h' : List Mo} {cs L : List Cl} (hr : RefOk h cs) (hv : Val cs L) (ha : ∀ c ∈ cs, c ∈ L) (hh : h'.map Mo.pl = h.map Mo.pl)
    {w w' : World} {lv : Value} {ok : Bool} {er : Int} (ho : OrderE h' w w' lv ok er) :
    er = 0 ∧ ok = true ∧ ∃ os : List Int, callsX h = some cs ∧ playedX cs os = true ∧ os.length ≤ 64 ∧ w'.ownsRow w.heap.size 3 1 lv os.length (os.map vI) := by
  have hc := ref_calls hr
  obtain ⟨hk, hb⟩ := calls_begun hc
  have h64 : cs.length ≤ 64 := by
    have h1 := hr.le
    have h2 := congrArg List.length hr.bs
    simp only [List.length_map] at h2
    omega
  have hpos := hv.possible hk ha
  have hseq := hv.seq hk (calls_right hc) ha
  rcases copy_order hh ho with ⟨h1, -⟩ | ⟨cs', h1, h2, h3⟩
  · rw [hc] at h1; cases h1
  · rw [hc] at h1
    cases h1
    rcases h3 with ⟨h3 | h3, -, -⟩ | ⟨acc, h3, h4, h5, h6⟩
    · rw [hpos] at h3; cases h3
    · exact absurd rfl (ord_some h64 hb hseq h3 (firsts_lt h64) (fun j hj => by rw [firsts_bit] at hj; simpa using hj))
    · have hp := order_played hc h64 hpos h4
      refine ⟨h2, h5, acc.map (fun i => (((cs[i]?.map Cl.b).getD 0 : Nat) : Int)), hc, hp, ?_, ?_⟩
      · unfold playedX at hp
        rw [Bool.and_eq_true, decide_eq_true_eq] at hp
        omega
      · rw [List.length_map, List.map_map]
        exact h6

/-! ### the beginnings tell nothing -/
theorem act_ms_eq (s : Pl.St) (i : Nat) (c : Pl.Cl) (o : OpT) : (Pl.actX s i c o).ms = s.ms := by
  unfold Pl.actX
  split
  · split <;> rfl
  · split
    · rfl
    · split
      · split <;> rfl
      · rfl
theorem step_zero {s : Pl.St} {i : Nat} (h : ∀ m ∈ s.ms, m.beg = true → m.rp = Pl.rep0) : ∀ m ∈ (Pl.stepX s i).ms, m.beg = true → m.rp = Pl.rep0 := by
  unfold Pl.stepX
  simp only
  split
  · exact h
  · split
    · intro m hm hb
      rcases List.mem_append.1 hm with h1 | h1
      · exact h m h1 hb
      · rw [List.mem_singleton.1 h1]
    · split
      · rw [act_ms_eq]; exact h
      · intro m hm hb
        rcases List.mem_append.1 hm with h1 | h1
        · exact h m h1 hb
        · rw [List.mem_singleton.1 h1] at hb; cases hb
theorem iter_zero (zs : List Int) (cl : List (List OpT)) : ∀ k, ∀ m ∈ (Pl.iter zs (Pl.begin0 cl) k).ms, m.beg = true → m.rp = Pl.rep0
  | 0 => fun m hm => by cases hm
  | k + 1 => by
    have ih := iter_zero zs cl k
    unfold Pl.iter
    simp only
    split
    · exact ih
    · exact step_zero ih

/-! ### how many begin -/
def nKnown (cl : List (List OpT)) : Nat := (cl.map (fun l => (l.filter Pl.knw).length)).sum
theorem sum_range (f : Nat → Nat) : ∀ n, ((List.range (n + 1)).map f).sum = ((List.range n).map f).sum + f n := fun n => by
  rw [List.range_succ, List.map_append, List.sum_append]; simp
theorem begs_sum : ∀ (ms : List Pl.MomT) (n : Nat), (∀ m ∈ ms, m.c < n) → Pl.nBeg ms = ((List.range n).map (fun c => (Pl.begOps ms c).length)).sum
  | [], n, _ => by
    have : ∀ n, ((List.range n).map (fun c => (Pl.begOps [] c).length)).sum = 0 := fun n => by
      induction n with
      | zero => rfl
      | succ n ih => rw [sum_range, ih]; rfl
    rw [this]; rfl
  | m :: r, n, h => by
    have ih := begs_sum r n (fun x hx => h x (List.mem_cons_of_mem _ hx))
    have hm := h m List.mem_cons_self
    have e : ∀ c, (Pl.begOps (m :: r) c).length = (Pl.begOps r c).length + if m.beg = true ∧ m.c = c then 1 else 0 := fun c => by
      unfold Pl.begOps
      rw [List.filter_cons]
      by_cases hb : m.beg = true ∧ m.c = c
      · rw [if_pos (by simp [hb.1, hb.2]), if_pos hb]; simp
      · rw [if_neg (by simpa using hb), if_neg hb]; simp
    have es : ∀ n, m.c < n → ((List.range n).map (fun c => (Pl.begOps (m :: r) c).length)).sum = ((List.range n).map (fun c => (Pl.begOps r c).length)).sum + if m.beg = true then 1 else 0 := fun n => by
      have lo : ∀ n, n ≤ m.c → ((List.range n).map (fun c => (Pl.begOps (m :: r) c).length)).sum = ((List.range n).map (fun c => (Pl.begOps r c).length)).sum := fun n => by
        induction n with
        | zero => intro _; rfl
        | succ n ih => intro hn; rw [sum_range, sum_range, ih (by omega), e n, if_neg (by omega)]; omega
      induction n with
      | zero => intro hn; omega
      | succ n ih =>
        intro hn
        rw [sum_range, sum_range, e n]
        by_cases hc : m.c = n
        · rw [lo n (by omega)]
          cases hb : m.beg <;> simp [hc] <;> omega
        · rw [ih (by omega), if_neg (show ¬ (m.beg = true ∧ m.c = n) from fun h => hc h.2)]; omega
    rw [es n hm, ← ih]
    unfold Pl.nBeg
    rw [List.filter_cons]
    cases hb : m.beg <;> simp
theorem Ended.count {cl : List (List OpT)} {s : Pl.St} {acs : List Pl.ActT} (x : Ended cl s acs) : Pl.nBeg s.ms = nKnown cl := by
  rw [begs_sum s.ms cl.length (fun m hm => by obtain ⟨i, hi, rfl⟩ := List.getElem_of_mem hm; exact x.hist.who i _ (List.getElem?_eq_getElem hi))]
  unfold nKnown
  congr 1
  apply List.ext_getElem
  · simp
  · intro i h1 h2
    rw [List.getElem_map, List.getElem_map, List.getElem_range, x.hist.all i _ (List.getElem?_eq_getElem (by simpa using h2))]
theorem Ended.len {cl : List (List OpT)} {s : Pl.St} {acs : List Pl.ActT} (x : Ended cl s acs) : s.ms.length = 2 * nKnown cl := by
  have h1 := x.count
  have h2 := x.hist.cnt
  have h3 := beg_end s.ms
  omega
/-- A play of any clients that is over. -/
theorem iter_ended {cl : List (List OpT)} (hk : ∀ l ∈ cl, ∀ o ∈ l, Pl.In64 o.2.1) (ho : ∀ l ∈ cl, ∀ o ∈ l, (o.1 ≠ 1 → o.2.2 = ⟨#[]⟩) ∧ (o.1 = 3 → o.2.1 = 0)) (zs : List Int) (k : Nat) (hab : Pl.able (Pl.iter zs (Pl.begin0 cl) k) = []) :
    ∃ acs, Ended cl (Pl.iter zs (Pl.begin0 cl) k) acs := by
  obtain ⟨acs, hL, -⟩ := Pl.Lin.iterates hk zs k
  exact ⟨acs, hL, hab, iter_zero zs cl k, ho⟩
/-- With more than 64 calls what it tells is no history. -/
theorem Ended.many {cl : List (List OpT)} {s : Pl.St} {acs : List Pl.ActT} (x : Ended cl s acs) {h : List Mo} (ht : Tells h s.ms) (hn : 64 < nKnown cl) : callsX h = none := by
  have h1 := x.len
  have h2 := ht.len
  unfold callsX
  rw [if_pos (by omega)]

/-! ### how long the answers' lists are -/
def GoodR (M : Nat) (r : Pl.RepT) : Prop := r.L.length ≤ M ∧ ∀ e ∈ r.L, In64 e.1
structure InvP (M : Nat) (s : Pl.St) : Prop where
  tab : ∀ e ∈ s.tab, In64 e.1
  cls : ∀ c ∈ s.cls, GoodR M c.rp
  ms : ∀ m ∈ s.ms, GoodR M m.rp ∧ In64 m.op.2.1
theorem good_nil (M : Nat) (b : Bool) (v : ByteArray) : GoodR M ⟨b, v, []⟩ := ⟨Nat.zero_le _, fun e he => by cases he⟩
theorem set_mem {α : Type} {l : List α} {i : Nat} {x y : α} (h : y ∈ l.set i x) : y = x ∨ y ∈ l := by
  rcases List.mem_or_eq_of_mem_set h with h | h
  · exact Or.inr h
  · exact Or.inl h
theorem act_inv {M : Nat} {s : Pl.St} {i : Nat} {c : Pl.Cl} {o : OpT} (h : InvP M s) (hc : GoodR M c.rp) (hM : s.tab.length ≤ M) (ho : In64 o.2.1) : InvP M (Pl.actX s i c o) := by
  have put : ∀ (x : Pl.Cl), GoodR M x.rp → ∀ y ∈ s.cls.set i x, GoodR M y.rp := fun x hx y hy => by
    rcases set_mem hy with rfl | hy
    · exact hx
    · exact h.cls y hy
  unfold Pl.actX
  split
  · split
    · exact ⟨h.tab, put _ (good_nil M _ _), h.ms⟩
    · refine ⟨fun e he => ?_, put _ (good_nil M _ _), h.ms⟩
      rw [insK_eq] at he
      rcases mem_ins he with rfl | he
      · exact ho
      · exact h.tab e he
  · split
    · exact ⟨h.tab, put _ (good_nil M _ _), h.ms⟩
    · split
      · split
        · exact ⟨h.tab, put _ hc, h.ms⟩
        · exact ⟨h.tab, put _ ⟨hM, h.tab⟩, h.ms⟩
      · exact h
theorem step_inv {M : Nat} {s : Pl.St} {i : Nat} (h : InvP M s) (hM : s.tab.length ≤ M) (hk : ∀ c ∈ s.cls, ∀ o ∈ c.ops, In64 o.2.1) : InvP M (Pl.stepX s i) := by
  have hc : GoodR M (s.cls.getD i Pl.cl0).rp ∧ ∀ o ∈ (s.cls.getD i Pl.cl0).ops, In64 o.2.1 := by
    rw [List.getD_eq_getElem?_getD]
    cases e : s.cls[i]? with
    | none => exact ⟨good_nil M _ _, fun o ho => by cases ho⟩
    | some c => exact ⟨h.cls c (List.mem_of_getElem? e), hk c (List.mem_of_getElem? e)⟩
  have put : ∀ (x : Pl.Cl), GoodR M x.rp → ∀ y ∈ s.cls.set i x, GoodR M y.rp := fun x hx y hy => by
    rcases set_mem hy with rfl | hy
    · exact hx
    · exact h.cls y hy
  unfold Pl.stepX
  simp only
  split
  · exact h
  · rename_i op rest eo
    have ho : In64 op.2.1 := hc.2 op (by rw [eo]; exact List.mem_cons_self)
    split
    · refine ⟨h.tab, put _ hc.1, fun m hm => ?_⟩
      rcases List.mem_append.1 hm with hm | hm
      · exact h.ms m hm
      · rw [List.mem_singleton.1 hm]; exact ⟨good_nil M _ _, ho⟩
    · split
      · exact act_inv h hc.1 hM ho
      · refine ⟨h.tab, put _ hc.1, fun m hm => ?_⟩
        rcases List.mem_append.1 hm with hm | hm
        · exact h.ms m hm
        · rw [List.mem_singleton.1 hm]; exact ⟨hc.1, ho⟩
theorem ins_len (t : List Kv) (k : Int) (v : ByteArray) : (insK t k v).length = t.length + 1 := by
  induction t with
  | nil => rfl
  | cons e r ih => unfold insK; split <;> simp [ih]
theorem doT_len (t : List Kv) (o : OpT) : (doT t o).length ≤ t.length + 1 := by
  unfold doT
  split
  · split
    · omega
    · rw [ins_len]; omega
  · omega
theorem fold_len : ∀ (os : List OpT) (t : List Kv), (os.foldl doT t).length ≤ t.length + os.length
  | [], t => by simp
  | o :: os, t => by
    have h1 := fold_len os (doT t o)
    have h2 := doT_len t o
    simp only [List.foldl_cons, List.length_cons]
    omega
theorem sum_le {f g : Nat → Nat} : ∀ n, (∀ c, c < n → f c ≤ g c) → ((List.range n).map f).sum ≤ ((List.range n).map g).sum
  | 0, _ => Nat.le_refl _
  | n + 1, h => by
    have := sum_le n (fun c hc => h c (by omega))
    have := h n (by omega)
    rw [sum_range, sum_range]; omega
theorem known_range (cl : List (List OpT)) : nKnown cl = ((List.range cl.length).map (fun c => ((cl.getD c []).filter Pl.knw).length)).sum := by
  unfold nKnown
  congr 1
  apply List.ext_getElem
  · simp
  · intro i h1 h2
    rw [List.getElem_map, List.getElem_map, List.getElem_range, List.getD_eq_getElem?_getD, List.getElem?_eq_getElem (by simpa using h1)]
    rfl
theorem begs_known {cl : List (List OpT)} {s : Pl.St} (h : Pl.PInv cl s) : Pl.nBeg s.ms ≤ nKnown cl := by
  rw [begs_sum s.ms cl.length (fun m hm => by obtain ⟨i, hi, rfl⟩ := List.getElem_of_mem hm; exact h.who i _ (List.getElem?_eq_getElem hi)), known_range]
  refine sum_le _ fun c hc => ?_
  have hl : cl[c]? = some cl[c] := List.getElem?_eq_getElem hc
  have := congrArg List.length (h.all c _ hl)
  rw [List.length_append] at this
  rw [List.getD_eq_getElem?_getD, hl]
  show _ ≤ (cl[c].filter Pl.knw).length
  omega
theorem acts_begs {cl : List (List OpT)} {s : Pl.St} {acs : List Pl.ActT} (h : Pl.Lin cl s acs) : acs.length ≤ Pl.nBeg s.ms := by
  obtain ⟨h0, e0⟩ : ∃ h0 : List Mo, h0 = s.ms.map (fun m => ⟨m.c, m.beg, m.op.1, m.op.2.1, m.op.2.2, rv0⟩) := ⟨_, rfl⟩
  have hb : h0.map Mo.beg = s.ms.map Pl.MomT.beg := by rw [e0, List.map_map]; rfl
  have h1 : (begins h0 h0.length).length = Pl.nBeg s.ms := by
    rw [begins_len h0 _ (Nat.le_refl _), List.take_length]
    exact begs_same hb
  have h2 := len_sub (l1 := acs.map Pl.ActT.i) (l2 := begins h0 h0.length) h.nd (fun i hi => by
    obtain ⟨A, hA, rfl⟩ := List.mem_map.1 hi
    obtain ⟨m, a1, a2, -⟩ := h.fwd A hA
    unfold begins
    rw [List.mem_filter, List.mem_range]
    have hl : A.i < s.ms.length := (List.getElem?_eq_some_iff.1 a1).1
    refine ⟨by rw [e0]; simpa using hl, ?_⟩
    unfold begAt
    rw [e0, List.getElem?_map, a1]
    exact a2)
  rw [List.length_map] at h2
  omega
theorem iter_inv {cl : List (List OpT)} (hk : ∀ l ∈ cl, ∀ o ∈ l, Pl.In64 o.2.1) (zs : List Int) : ∀ k, InvP (nKnown cl) (Pl.iter zs (Pl.begin0 cl) k)
  | 0 => by
    refine ⟨fun e he => (by cases he), fun c hc => ?_, fun m hm => (by cases hm)⟩
    obtain ⟨l, -, rfl⟩ := List.mem_map.1 hc
    exact good_nil _ _ _
  | k + 1 => by
    have ih := iter_inv hk zs k
    obtain ⟨acs, hL, -⟩ := Pl.Lin.iterates hk zs k
    unfold Pl.iter
    simp only
    split
    · exact ih
    · refine step_inv ⟨ih.tab, ih.cls, ih.ms⟩ ?_ (fun c hc => (hL.inv.ok c hc).keys)
      show (Pl.iter zs (Pl.begin0 cl) k).tab.length ≤ _
      rw [hL.tab, tabOf_eq]
      have := fold_len (acs.map Pl.ActT.op) []
      rw [List.length_map] at this
      simp only [List.length_nil, Nat.zero_add] at this
      have := acts_begs hL
      have := begs_known hL.inv
      unfold tabOf
      omega
theorem known_le (cl : List (List OpT)) : nKnown cl ≤ (cl.map List.length).sum := by
  unfold nKnown
  induction cl with
  | nil => simp
  | cons a r ih =>
    have := List.length_filter_le Pl.knw a
    simp only [List.map_cons, List.sum_cons]
    omega
end Go.Proofs.YtihicdbplmdjiaaGreat
