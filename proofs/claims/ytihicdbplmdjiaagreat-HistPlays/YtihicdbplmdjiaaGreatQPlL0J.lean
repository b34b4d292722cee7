import Derived.Test.YtihicdbplmdjiaaGreatQPlC6J
import Derived.Test.YtihicdbplmdjiaaGreatQC3J
import Derived.Test.YtihicdbplmdjiaaGreatQPlAxJ
set_option linter.unusedVariables false
set_option linter.unusedSimpArgs false
namespace Go.Proofs.YtihicdbplmdjiaaGreat.Pl

theorem stepX_eq {s : St} {i : Nat} (hl : i < s.cls.length) {o : OpT} {r : List OpT} (hop : s.cls[i].ops = o :: r) : stepX s i =
    if s.cls[i].st = 0 then { s with ms := s.ms ++ [⟨i, true, o, rep0⟩], cls := s.cls.set i { s.cls[i] with st := 1 } }
    else if s.cls[i].st = 1 then actX s i s.cls[i] o
    else { s with ms := s.ms ++ [⟨i, false, o, s.cls[i].rp⟩], cls := s.cls.set i { s.cls[i] with st := 0, ops := fromK r } } := by
  have hg : s.cls.getD i cl0 = s.cls[i] := by rw [List.getD_eq_getElem?_getD]; simp [hl]
  unfold stepX
  simp only [hg, hop]

theorem iter_step {zs : List Int} {s0 : St} {k : Nat} (h : able (iter zs s0 k) ≠ []) : iter zs s0 (k + 1) = stepX { iter zs s0 k with last := (pickX (iter zs s0 k).last (able (iter zs s0 k)) zs k : Nat) } (pickX (iter zs s0 k).last (able (iter zs s0 k)) zs k) := by
  show (if able (iter zs s0 k) = [] then _ else _) = _
  rw [if_neg h]
theorem pick_mem {last : Int} {L : List Nat} {zs : List Int} {k : Nat} (h : L ≠ []) : pickX last L zs k ∈ L := by
  have hpos : 0 < L.length := List.length_pos_iff.2 h
  unfold pickX
  split
  · have h0 : 0 ≤ zs.getD k 0 % (L.length : Int) := Int.emod_nonneg _ (by omega)
    have h1 : zs.getD k 0 % (L.length : Int) < L.length := Int.emod_lt_of_pos _ (by omega)
    have h2 : (zs.getD k 0 % (L.length : Int)).toNat < L.length := by omega
    rw [List.getD_eq_getElem?_getD, List.getElem?_eq_getElem h2]
    exact List.getElem_mem h2
  · unfold behindX
    cases hf : L.find? (fun (i : Nat) => decide ((i : Int) > last)) with
    | some x => exact List.mem_of_find?_eq_some hf
    | none =>
      cases L with
      | nil => exact absurd rfl h
      | cons a r => simp
theorem iter_stop {zs : List Int} {s0 : St} {k : Nat} (h : able (iter zs s0 k) = []) : ∀ m, iter zs s0 (k + m) = iter zs s0 k
  | 0 => rfl
  | m + 1 => by
    have ih := iter_stop h m
    show (if able (iter zs s0 (k + m)) = [] then _ else _) = _
    rw [if_pos (by rw [ih]; exact h)]
    exact ih
end Go.Proofs.YtihicdbplmdjiaaGreat.Pl
namespace Go.Proofs.YtihicdbplmdjiaaGreat

/-! ### calls do not hang on where their lists lie -/
def Cl.pl (c : Cl) : Int × Int × Int × Int × ByteArray × Rpl := (c.b, c.e, c.kd, c.ky, c.v, c.R.r)
def Mo.pl (m : Mo) : Int × Bool × Int × Int × ByteArray × Rpl := (m.c, m.beg, m.kd, m.ky, m.v, m.R.r)
def SameS (s s' : Option St) : Prop := (s = none ∧ s' = none) ∨ ∃ a b, s = some a ∧ s' = some b ∧ a.op = b.op ∧ a.cs.map Cl.pl = b.cs.map Cl.pl
theorem Cl.pl_eq {c d : Cl} : c.pl = d.pl ↔ c.b = d.b ∧ c.e = d.e ∧ c.kd = d.kd ∧ c.ky = d.ky ∧ c.v = d.v ∧ c.R.r = d.R.r := by
  unfold Cl.pl; simp only [Prod.mk.injEq]; constructor <;> intro h <;> refine ⟨by omega, by omega, ?_⟩ <;> simp_all
theorem step_same {k : Nat} {m m' : Mo} {a b : St} (hm : m.pl = m'.pl) (ho : a.op = b.op) (hc : a.cs.map Cl.pl = b.cs.map Cl.pl) : SameS (stepO k m a) (stepO k m' b) := by
  unfold Mo.pl at hm
  simp only [Prod.mk.injEq] at hm
  obtain ⟨e1, e2, e3, e4, e5, e6⟩ := hm
  have hlen : a.cs.length = b.cs.length := by simpa using congrArg List.length hc
  unfold stepO
  rw [← ho, ← e1, ← e2, ← e3, ← e4, ← e5, ← e6, hlen]
  cases a.op.lookup m.c with
  | none =>
    simp only
    split
    · refine Or.inr ⟨_, _, rfl, rfl, rfl, ?_⟩
      simp only [List.map_append, hc, List.map_cons, List.map_nil]
      rw [show (begun k m).pl = (begun k m').pl from Cl.pl_eq.2 ⟨rfl, rfl, e3, e4, e5, rfl⟩]
    · exact Or.inl ⟨rfl, rfl⟩
  | some i =>
    simp only
    have hi : (a.cs[i]?).map Cl.pl = (b.cs[i]?).map Cl.pl := by rw [← List.getElem?_map, ← List.getElem?_map, hc]
    cases ea : a.cs[i]? with
    | none =>
      cases eb : b.cs[i]? with
      | none => exact Or.inl ⟨rfl, rfl⟩
      | some d => rw [ea, eb] at hi; cases hi
    | some c =>
      cases eb : b.cs[i]? with
      | none => rw [ea, eb] at hi; cases hi
      | some d =>
        rw [ea, eb] at hi
        have hcd : c.pl = d.pl := by simpa using hi
        obtain ⟨f1, f2, f3, f4, f5, f6⟩ := Cl.pl_eq.1 hcd
        have hs : sameOp m c = sameOp m' d := by unfold sameOp; rw [e3, e4, e5, f3, f4, f5]
        simp only [hs]
        split
        · refine Or.inr ⟨_, _, rfl, rfl, rfl, ?_⟩
          simp only [List.map_set, hc]
          rw [show (c.ended k m).pl = (d.ended k m').pl from Cl.pl_eq.2 ⟨f1, rfl, f3, f4, f5, e6⟩]
        · exact Or.inl ⟨rfl, rfl⟩
theorem run_same {h h' : List Mo} (hh : h.map Mo.pl = h'.map Mo.pl) : ∀ k, SameS (runO h k) (runO h' k)
  | 0 => Or.inr ⟨_, _, rfl, rfl, rfl, rfl⟩
  | k + 1 => by
    have hk : (h[k]?).map Mo.pl = (h'[k]?).map Mo.pl := by rw [← List.getElem?_map, ← List.getElem?_map, hh]
    show SameS ((runO h k).bind _) ((runO h' k).bind _)
    rcases run_same hh k with ⟨e1, e2⟩ | ⟨a, b, e1, e2, ho, hc⟩
    · rw [e1, e2]; exact Or.inl ⟨rfl, rfl⟩
    · rw [e1, e2]
      simp only [Option.bind_some]
      cases em : h[k]? with
      | none =>
        cases em' : h'[k]? with
        | none => exact Or.inr ⟨_, _, rfl, rfl, ho, hc⟩
        | some m' => rw [em, em'] at hk; cases hk
      | some m =>
        cases em' : h'[k]? with
        | none => rw [em, em'] at hk; cases hk
        | some m' =>
          rw [em, em'] at hk
          exact step_same (by simpa using hk) ho hc
theorem calls_same {h h' : List Mo} (hh : h.map Mo.pl = h'.map Mo.pl) : (callsX h = none ∧ callsX h' = none) ∨ ∃ cs cs', callsX h = some cs ∧ callsX h' = some cs' ∧ cs.map Cl.pl = cs'.map Cl.pl := by
  have hl : h.length = h'.length := by simpa using congrArg List.length hh
  unfold callsX
  rw [← hl]
  by_cases hb : h.length > 128
  · rw [if_pos hb, if_pos hb]; exact Or.inl ⟨rfl, rfl⟩
  · rw [if_neg hb, if_neg hb]
    rcases run_same hh h.length with ⟨e1, e2⟩ | ⟨a, b, e1, e2, ho, hc⟩
    · rw [e1, e2]; exact Or.inl ⟨rfl, rfl⟩
    · rw [e1, e2]
      simp only [Option.bind_some, ← ho]
      by_cases h0 : a.op = []
      · rw [if_pos h0, if_pos h0]; exact Or.inr ⟨_, _, rfl, rfl, hc⟩
      · rw [if_neg h0, if_neg h0]; exact Or.inl ⟨rfl, rfl⟩

/-! ### the order does not hang on where lists lie -/
theorem prec_same {c c' d d' : Cl} (h1 : c.pl = c'.pl) (h2 : d.pl = d'.pl) : precB c d = precB c' d' := by
  obtain ⟨f1, f2, f3, f4, f5, f6⟩ := Cl.pl_eq.1 h1
  obtain ⟨g1, g2, g3, g4, g5, g6⟩ := Cl.pl_eq.1 h2
  unfold precB makesB missesB findsB
  rw [f2, f3, f4, f6, g1, g3, g4, g6]
theorem pl_get {cs cs' : List Cl} (h : cs.map Cl.pl = cs'.map Cl.pl) (i : Nat) : (cs[i]?).map Cl.pl = (cs'[i]?).map Cl.pl := by rw [← List.getElem?_map, ← List.getElem?_map, h]
theorem ahead_same {cs cs' : List Cl} (h : cs.map Cl.pl = cs'.map Cl.pl) (i n : Nat) : aheadTo cs i n = aheadTo cs' i n := by
  unfold aheadTo
  refine List.filter_congr fun j _ => ?_
  have hi := pl_get h i
  have hj := pl_get h j
  cases ei : cs[i]? <;> cases ei' : cs'[i]? <;> cases ej : cs[j]? <;> cases ej' : cs'[j]? <;> rw [ei, ei'] at hi <;> rw [ej, ej'] at hj <;> simp at hi hj ⊢
  rw [prec_same hj hi]
theorem waits_same {cs cs' : List Cl} (h : cs.map Cl.pl = cs'.map Cl.pl) : waitsX cs = waitsX cs' := by
  have hl : cs.length = cs'.length := by simpa using congrArg List.length h
  unfold waitsX
  rw [hl]
  exact List.map_congr_left fun i _ => by rw [ahead_same h]
def SameF (f f' : Mk) : Prop := ∀ q, (f q).map Cl.pl = (f' q).map Cl.pl
theorem made_same : ∀ {cs cs' : List Cl} {f f' : Mk}, cs.map Cl.pl = cs'.map Cl.pl → SameF f f' → SameF (cs.foldl (fun f c => if makesB c then (fun q => if q = c.ky then some c else f q) else f) f) (cs'.foldl (fun f c => if makesB c then (fun q => if q = c.ky then some c else f q) else f) f')
  | [], [], _, _, _, hf => hf
  | [], _ :: _, _, _, h, _ => by cases h
  | _ :: _, [], _, _, h, _ => by cases h
  | c :: cs, c' :: cs', f, f', h, hf => by
    rw [List.map_cons, List.map_cons, List.cons.injEq] at h
    rw [List.foldl_cons, List.foldl_cons]
    refine made_same h.2 ?_
    obtain ⟨f1, f2, f3, f4, f5, f6⟩ := Cl.pl_eq.1 h.1
    have hm : makesB c = makesB c' := by unfold makesB; rw [f3, f6]
    rw [hm]
    split
    · intro q
      rw [f4]
      by_cases hq : q = c'.ky
      · simp [hq, h.1]
      · simp only [if_neg hq]; exact hf q
    · exact hf
theorem has_same {f f' : Mk} (hf : SameF f f') (k : Int) (v : ByteArray) : hasB f k v = hasB f' k v := by
  have := hf k
  unfold hasB
  cases e : f k <;> cases e' : f' k <;> rw [e, e'] at this <;> simp at this ⊢
  rw [(Cl.pl_eq.1 this).2.2.2.2.1]
theorem tell_same {f f' : Mk} (hf : SameF f f') {c c' : Cl} (h : c.pl = c'.pl) : canTellB f c = canTellB f' c' := by
  obtain ⟨f1, f2, f3, f4, f5, f6⟩ := Cl.pl_eq.1 h
  unfold canTellB
  have h1 : (f c'.ky).isSome = (f' c'.ky).isSome := by
    have := hf c'.ky
    cases e : f c'.ky <;> cases e' : f' c'.ky <;> rw [e, e'] at this <;> simp at this ⊢
  rw [f3, f4, f6, h1, has_same hf]
  simp only [has_same hf]
theorem possible_same {f f' : Mk} (hf : SameF f f') : ∀ {cs cs' : List Cl}, cs.map Cl.pl = cs'.map Cl.pl → possibleB f cs = possibleB f' cs'
  | [], [], _ => rfl
  | [], _ :: _, h => by cases h
  | _ :: _, [], h => by cases h
  | c :: cs, c' :: cs', h => by
    rw [List.map_cons, List.map_cons, List.cons.injEq] at h
    have ih := possible_same hf h.2
    unfold possibleB at ih ⊢
    rw [List.all_cons, List.all_cons, tell_same hf h.1, ih]
theorem possibleX_same {cs cs' : List Cl} (h : cs.map Cl.pl = cs'.map Cl.pl) : possibleB (madeX cs) cs = possibleB (madeX cs') cs' := possible_same (made_same h (fun _ => rfl)) h
end Go.Proofs.YtihicdbplmdjiaaGreat
namespace Go.Proofs.YtihicdbplmdjiaaGreat.Pl
open Go.RowKit (wrap32 wrap64)
open Go.MuLone
open Go.Maps (Keyed)

def Apart (g g' : Gh) : Prop := ∀ j, g.own j ≠ 0 → g'.own j = 0
theorem Apart.symm {g g' : Gh} (h : Apart g g') : Apart g' g := fun j hj => by
  by_cases e : g.own j = 0
  · exact e
  · exact absurd (h j e) hj

theorem Fr.under {S : Nat → Prop} {w a b : World} (h : Fr (fun _ => False) w a) (k : Fr S a b) (hs : ∀ j, S j → w.heap.size ≤ j) : Fr (fun _ => False) w b :=
  ⟨k.os.trans h.os, k.tape.trans h.tape, k.output.trans h.output, Nat.le_trans h.size k.size, fun j hj _ => (k.block j (Nat.lt_of_lt_of_le hj h.size) (fun hS => by have := hs j hS; omega)).trans (h.block j hj (fun h => h))⟩
theorem gh0_from (b j : Nat) (hj : (gh0 b).own j ≠ 0) : b ≤ j := by
  rcases Nat.lt_or_ge j b with h | h
  · exact absurd (gh0_old b j h) hj
  · exact h

abbrev opV (kd ky : Int) (s : ByteArray) : Value := .agg #[vI kd, vI ky, .string s]

end Go.Proofs.YtihicdbplmdjiaaGreat.Pl
namespace Go.Proofs.YtihicdbplmdjiaaGreat
open Go.RowKit (wrap32 wrap64)

/-! ### n Lookups at one time -/
abbrev noB : ByteArray := ⟨#[]⟩
theorem em0 : emB noB = true := by
  unfold emB ByteArray.toList
  rw [ByteArray.toList.loop]
  have : noB.size = 0 := rfl
  simp [this]
def mo (i : Nat) (b : Bool) : Mo := ⟨i, b, 2, 3, noB, rv0⟩
def manyH (n : Nat) : List Mo := (List.range n).map (fun i => mo i true) ++ (List.range n).map (fun i => mo i false)
def fin (n i : Nat) : Cl := ⟨i, n + i, 2, 3, noB, rv0⟩
def bgn (i : Nat) : Cl := ⟨i, 0, 2, 3, noB, rv0⟩
theorem zero0 : isZeroB rv0.r = true := by unfold isZeroB rv0 noKeysB; simp [em0]
theorem right0 : rightOpB 2 3 noB = true := by unfold rightOpB; simp [em0]
theorem reply0 : rightReplyB 2 rv0.r = true := by unfold rightReplyB noKeysB rv0; simp [em0]
theorem step_b (at_ i : Nat) (s : St) (h : s.op.lookup (i : Int) = none) : stepO at_ (mo i true) s = some ⟨s.cs ++ [bgn at_], ((i : Int), s.cs.length) :: s.op⟩ := by
  unfold stepO
  have : (mo i true).c = (i : Int) := rfl
  rw [this, h]
  have : ((mo i true).beg && rightOpB (mo i true).kd (mo i true).ky (mo i true).v && isZeroB (mo i true).R.r) = true := by
    show (true && rightOpB 2 3 noB && isZeroB rv0.r) = true
    rw [right0, zero0]; rfl
  simp only [this, if_true]
  rfl
theorem step_e (at_ i q b : Nat) (s : St) (h : s.op.lookup (i : Int) = some q) (hc : s.cs[q]? = some (bgn b)) : stepO at_ (mo i false) s = some ⟨s.cs.set q ⟨b, at_, 2, 3, noB, rv0⟩, s.op.filter (fun p => p.1 != (i : Int))⟩ := by
  unfold stepO
  have : (mo i false).c = (i : Int) := rfl
  rw [this, h]
  simp only [hc]
  have : (!(mo i false).beg && sameOp (mo i false) (bgn b) && rightReplyB (mo i false).kd (mo i false).R.r) = true := by
    show (!false && sameOp (mo i false) (bgn b) && rightReplyB 2 rv0.r) = true
    rw [reply0]
    simp [sameOp, mo, bgn]
  rw [if_pos this]
  rfl
theorem many_len (n : Nat) : (manyH n).length = n + n := by simp [manyH]
theorem many_b (n k : Nat) (h : k < n) : (manyH n)[k]? = some (mo k true) := by
  unfold manyH
  rw [List.getElem?_append_left (by simpa using h), List.getElem?_map, List.getElem?_range h]; rfl
theorem many_e (n j : Nat) (h : j < n) : (manyH n)[n + j]? = some (mo j false) := by
  unfold manyH
  rw [List.getElem?_append_right (by simp), List.length_map, List.length_range, show n + j - n = j by omega, List.getElem?_map, List.getElem?_range h]; rfl
theorem phase1 (n : Nat) : ∀ k, k ≤ n → ∃ s, runO (manyH n) k = some s ∧ s.cs = (List.range k).map bgn ∧ ∀ q : Int, s.op.lookup q = if 0 ≤ q ∧ q < k then some q.toNat else none
  | 0, _ => ⟨⟨[], []⟩, rfl, rfl, fun q => by rw [if_neg (by omega)]; rfl⟩
  | k + 1, h => by
    obtain ⟨s, h1, h2, h3⟩ := phase1 n k (by omega)
    have hst := runO_step h1 (many_b n k (by omega))
    rw [step_b k k s (by rw [h3, if_neg (by omega)])] at hst
    refine ⟨_, hst, by rw [h2, List.range_succ, List.map_append]; rfl, fun q => ?_⟩
    show (((k : Int), s.cs.length) :: s.op).lookup q = _
    rw [List.lookup_cons]
    by_cases e : q = (k : Int)
    · subst e
      rw [if_pos (by omega), h2]
      simp
    · rw [show (q == (k : Int)) = false by simpa using e, h3]
      by_cases h4 : 0 ≤ q ∧ q < k
      · rw [if_pos h4, if_pos (by omega)]
      · rw [if_neg h4, if_neg (by omega)]
theorem phase2 (n : Nat) : ∀ j, j ≤ n → ∃ s, runO (manyH n) (n + j) = some s ∧ s.cs = (List.range n).map (fun i => if i < j then fin n i else bgn i) ∧ ∀ q : Int, s.op.lookup q = if (j : Int) ≤ q ∧ q < n then some q.toNat else none
  | 0, _ => by
    obtain ⟨s, h1, h2, h3⟩ := phase1 n n (Nat.le_refl _)
    exact ⟨s, h1, by rw [h2]; congr 1, fun q => by rw [h3]; rfl⟩
  | j + 1, h => by
    obtain ⟨s, h1, h2, h3⟩ := phase2 n j (by omega)
    have hst := runO_step h1 (many_e n j (by omega))
    have hq : s.op.lookup (j : Int) = some j := by rw [h3, if_pos (by omega)]; rfl
    have hcj : s.cs[j]? = some (bgn j) := by
      rw [h2, List.getElem?_map, List.getElem?_range (by omega)]
      simp
    rw [step_e (n + j) j j j s hq hcj] at hst
    refine ⟨_, hst, ?_, fun q => ?_⟩
    · show s.cs.set j _ = _
      apply List.ext_getElem?
      intro x
      rw [List.getElem?_set, h2]
      by_cases e : j = x
      · subst e
        rw [if_pos rfl, if_pos (by simp; omega), List.getElem?_map, List.getElem?_range (by omega)]
        simp [fin]
      · rw [if_neg e, List.getElem?_map, List.getElem?_map]
        by_cases hx : x < n
        · rw [List.getElem?_range hx]
          show some _ = some _
          congr 1
          show (if x < j then fin n x else bgn x) = (if x < j + 1 then fin n x else bgn x)
          by_cases hxj : x < j
          · rw [if_pos hxj, if_pos (by omega)]
          · rw [if_neg hxj, if_neg (by omega)]
        · rw [List.getElem?_eq_none (by simpa using hx)]; rfl
    · show (s.op.filter (fun p => p.1 != (j : Int))).lookup q = _
      rw [lookup_filter, h3]
      by_cases e : q = (j : Int)
      · rw [if_pos e, if_neg (by omega)]
      · rw [if_neg e]
        by_cases h4 : (j : Int) ≤ q ∧ q < n
        · rw [if_pos h4, if_pos (by omega)]
        · rw [if_neg h4, if_neg (by omega)]
theorem many_calls (n : Nat) : callsX (manyH n) = if n ≤ 64 then some ((List.range n).map (fin n)) else none := by
  unfold callsX
  rw [many_len]
  by_cases h : n ≤ 64
  · rw [if_pos h, if_neg (by omega)]
    obtain ⟨s, h1, h2, h3⟩ := phase2 n n (Nat.le_refl _)
    rw [h1]
    have hop : s.op = [] := by
      cases hs : s.op with
      | nil => rfl
      | cons a l =>
        have := h3 a.1
        rw [hs, if_neg (by omega), List.lookup_cons] at this
        simp at this
    simp only [Option.bind_some]
    rw [if_pos hop, h2]
    congr 1
    apply List.map_congr_left
    intro i hi
    rw [if_pos (List.mem_range.1 hi)]
  · rw [if_neg h, if_pos (by omega)]
/-- Nothing must stand ahead of anything. -/
theorem many_ahead (n i k : Nat) (hk : k ≤ n) (hi : i < n) : aheadTo ((List.range n).map (fin n)) i k = [] := by
  unfold aheadTo
  rw [List.filter_eq_nil_iff]
  intro j hj
  have hj := List.mem_range.1 hj
  rw [List.getElem?_map, List.getElem?_map, List.getElem?_range (by omega), List.getElem?_range hi]
  simp [precB, makesB, fin]
  omega
theorem many_waits (n : Nat) : waitsX ((List.range n).map (fin n)) = List.replicate n 0 := by
  unfold waitsX
  apply List.ext_getElem
  · simp
  · intro i h1 h2
    simp only [List.getElem_map, List.getElem_range, List.getElem_replicate, List.length_map, List.length_range]
    rw [many_ahead n i n (Nat.le_refl _) (by simpa using h1)]
    rfl
theorem many_made (n : Nat) : madeX ((List.range n).map (fin n)) = fun _ => none := by
  have : ∀ (cs : List Cl) (f : Mk), (∀ c ∈ cs, makesB c = false) → cs.foldl (fun f c => if makesB c then (fun q => if q = c.ky then some c else f q) else f) f = f := by
    intro cs
    induction cs with
    | nil => intro f _; rfl
    | cons a cs ih =>
      intro f h
      rw [List.foldl_cons, h a (by simp)]
      exact ih f (fun c hc => h c (by simp [hc]))
  unfold madeX
  exact this _ _ (fun c hc => by obtain ⟨i, -, rfl⟩ := List.mem_map.1 hc; rfl)
theorem many_possible (n : Nat) (f : Mk) : possibleB f ((List.range n).map (fin n)) = true := by
  unfold possibleB
  rw [List.all_eq_true]
  intro c hc
  obtain ⟨i, -, rfl⟩ := List.mem_map.1 hc
  simp [canTellB, fin, rv0]
theorem many_ord (n : Nat) (hn : n ≤ 64) : ∀ (m left k : Nat) (acc : List Nat) (r : Option (List Nat)), m + k = n → left < 18446744073709551616 → (∀ j, left.testBit j = (decide (k ≤ j) && decide (j < n))) → Ord (List.replicate n 0) left acc r → r = some (acc ++ List.range' k m)
  | 0, left, k, acc, r, hk, hl, hb, h => by
    have h0 : left = 0 := by
      apply Nat.eq_of_testBit_eq
      intro j
      rw [hb, Nat.zero_testBit]
      by_cases e : k ≤ j
      · have : ¬ j < n := by omega
        simp [this]
      · simp [e]
    subst h0
    cases h with
    | done => simp
    | stuck _ _ h0 _ => exact absurd rfl h0
    | step _ _ _ _ h0 _ _ => exact absurd rfl h0
  | m + 1, left, k, acc, r, hk, hl, hb, h => by
    have hbk : left.testBit k = true := by rw [hb]; simp; omega
    have hx : leastX left (List.replicate n 0) = some k := by
      refine leastX_some (by simp; omega) ?_ (fun i hi => ?_)
      · unfold freeB
        rw [hbk, List.getD_eq_getElem?_getD, List.getElem?_replicate, if_pos (by omega)]
        simp
      · unfold freeB
        rw [hb]
        have : ¬ k ≤ i := by omega
        simp [this]
    cases h with
    | done => rw [Nat.zero_testBit] at hbk; cases hbk
    | stuck _ _ _ h2 => rw [hx] at h2; cases h2
    | step _ i _ _ _ h2 h3 =>
      rw [hx] at h2
      cases h2
      have := many_ord n hn m (dropS left k) (k + 1) (acc ++ [k]) r (by omega) (dropS_lt k hl) (fun j => by
        rw [dropS_bit j hl (by omega), hb]
        by_cases e : j = k
        · subst e
          simp
          omega
        · by_cases h4 : k ≤ j
          · have : k + 1 ≤ j := by omega
            simp [e, h4, this]
          · have : ¬ k + 1 ≤ j := by omega
            simp [h4, this]) h3
      rw [this, List.append_assoc]
      rfl
theorem many_all (n : Nat) (hn : n ≤ 64) (r : Option (List Nat)) (h : Ord (List.replicate n 0) (2 ^ n - 1) [] r) : r = some (List.range' 0 n) := by
  have := many_ord n hn n (2 ^ n - 1) 0 [] r (by omega) (firsts_lt hn) (fun j => by rw [firsts_bit]; simp) h
  simpa using this
end Go.Proofs.YtihicdbplmdjiaaGreat
