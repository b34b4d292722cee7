import Derived.Test.YtihicdbplmdjiaaQA6
import Derived.Maps.Views
namespace Go.Proofs.Ytihicdbplmdjiaa
open Go.RowKit (wrap32 wrap64)
open Go.Maps (Keyed)
set_option linter.unusedVariables false
set_option linter.unusedSimpArgs false

/-! ### a history, in plain words -/
/-- A moment, with its reply's lists as they lie. -/
structure Mo where
  c : Int
  beg : Bool
  kd : Int
  ky : Int
  v : ByteArray
  R : RV
def m9 (m : Mo) : List Value := [vI m.c, .bool m.beg, vI m.kd, vI m.ky, .string m.v, .bool m.R.r.ok, .string m.R.r.val, m.R.kv, m.R.vv]
structure St where
  cs : List Cl
  op : List (Int × Nat)
def sameOp (m : Mo) (c : Cl) : Bool := decide (m.kd = c.kd ∧ m.ky = c.ky ∧ m.v.toList = c.v.toList)
def begun (at_ : Nat) (m : Mo) : Cl := ⟨at_, 0, m.kd, m.ky, m.v, rv0⟩
def Cl.ended (c : Cl) (at_ : Nat) (m : Mo) : Cl := { c with e := at_, R := m.R }
/-- One moment more. -/
def stepO (at_ : Nat) (m : Mo) (s : St) : Option St :=
  match s.op.lookup m.c with
  | none => if m.beg && rightOpB m.kd m.ky m.v && isZeroB m.R.r then some ⟨s.cs ++ [begun at_ m], (m.c, s.cs.length) :: s.op⟩ else none
  | some i =>
    match s.cs[i]? with
    | none => none
    | some c => if !m.beg && sameOp m c && rightReplyB m.kd m.R.r then some ⟨s.cs.set i (c.ended at_ m), s.op.filter (fun p => p.1 != m.c)⟩ else none
/-- The first k moments. -/
def runO (h : List Mo) : Nat → Option St
  | 0 => some ⟨[], []⟩
  | k + 1 => (runO h k).bind fun s => match h[k]? with | none => some s | some m => stepO k m s
/-- The calls of a history. -/
def callsX (h : List Mo) : Option (List Cl) :=
  if h.length > 128 then none else (runO h h.length).bind fun s => if s.op = [] then some s.cs else none

theorem runO_none {h : List Mo} {k : Nat} (e : runO h k = none) : ∀ n, runO h (k + n) = none
  | 0 => e
  | n + 1 => by
    show (runO h (k + n)).bind _ = none
    rw [runO_none e n]; rfl
theorem runO_step {h : List Mo} {k : Nat} {s : St} {m : Mo} (e : runO h k = some s) (hm : h[k]? = some m) : runO h (k + 1) = stepO k m s := by
  show (runO h k).bind _ = _
  rw [e]
  show (match h[k]? with | none => some s | some m => stepO k m s) = _
  rw [hm]
/-- What is known of a state. -/
structure StOk (k : Nat) (s : St) : Prop where
  idx : ∀ p ∈ s.op, p.2 < s.cs.length
  nodup : (s.op.map (·.1)).Nodup
  len : s.cs.length ≤ k
  cb : ∀ c ∈ s.cs, c.b < k
  ce : ∀ c ∈ s.cs, c.e < k + 1

theorem lookup_mem {q : Int} {i : Nat} : ∀ {l : List (Int × Nat)}, l.lookup q = some i → (q, i) ∈ l
  | [], h => by simp at h
  | (a, j) :: l, h => by
    rw [List.lookup_cons] at h
    by_cases e : q = a
    · subst e; simp at h; subst h; simp
    · have : (q == a) = false := by simpa using e
      rw [this] at h
      exact List.mem_cons_of_mem _ (lookup_mem h)
theorem lookup_none {q : Int} : ∀ {l : List (Int × Nat)}, l.lookup q = none → q ∉ l.map (·.1)
  | [], _ => by simp
  | (a, j) :: l, h => by
    rw [List.lookup_cons] at h
    by_cases e : q = a
    · subst e; simp at h
    · have : (q == a) = false := by simpa using e
      rw [this] at h
      simp only [List.map_cons, List.mem_cons]
      rintro (h1 | h1)
      · exact e h1
      · exact lookup_none h h1
theorem lookup_filter (c q : Int) : ∀ (l : List (Int × Nat)), (l.filter (fun p => p.1 != c)).lookup q = if q = c then none else l.lookup q
  | [] => by simp
  | (a, j) :: l => by
    have ih := lookup_filter c q l
    by_cases e : a = c
    · subst e
      rw [List.filter_cons_of_neg (by simp), ih, List.lookup_cons]
      by_cases e2 : q = a
      · rw [if_pos e2, if_pos e2]
      · rw [if_neg e2, if_neg e2]
        have : (q == a) = false := by simpa using e2
        rw [this]
    · rw [List.filter_cons_of_pos (by simpa using e), List.lookup_cons, List.lookup_cons, ih]
      by_cases e2 : q = a
      · subst e2
        rw [if_neg e]; simp [e]
      · have : (q == a) = false := by simpa using e2
        rw [this]
theorem filter_len {c : Int} {i : Nat} : ∀ {l : List (Int × Nat)}, (l.map (·.1)).Nodup → l.lookup c = some i → (l.filter (fun p => p.1 != c)).length + 1 = l.length
  | [], _, h => by simp at h
  | (a, j) :: l, hn, h => by
    rw [List.lookup_cons] at h
    simp only [List.map_cons, List.nodup_cons] at hn
    by_cases e : c = a
    · subst e
      rw [List.filter_cons_of_neg (by simp)]
      have : l.filter (fun p => p.1 != c) = l := List.filter_eq_self.2 fun p hp => by
        simp only [bne_iff_ne, ne_eq]
        intro e
        exact hn.1 (e ▸ List.mem_map_of_mem hp)
      rw [this]; rfl
    · have e' : (c == a) = false := by simpa using e
      rw [e'] at h
      rw [List.filter_cons_of_pos (by simpa using fun x => e x.symm), List.length_cons, List.length_cons, filter_len hn.2 h]

theorem stOk_run (h : List Mo) : ∀ k s, runO h k = some s → StOk k s
  | 0, s, e => by
    cases e
    exact ⟨by simp, by simp, by simp, by simp, by simp⟩
  | k + 1, s', e => by
    cases e0 : runO h k with
    | none => rw [runO_none e0 1] at e; cases e
    | some s =>
      have ih := stOk_run h k s e0
      cases hm : h[k]? with
      | none =>
        have : runO h (k + 1) = some s := by
          show (runO h k).bind _ = _
          rw [e0]; show (match h[k]? with | none => some s | some m => stepO k m s) = _; rw [hm]
        rw [this] at e; cases e
        exact ⟨ih.idx, ih.nodup, by have := ih.len; omega, fun c hc => by have := ih.cb c hc; omega, fun c hc => by have := ih.ce c hc; omega⟩
      | some m =>
        rw [runO_step e0 hm] at e
        unfold stepO at e
        split at e
        · next hl =>
          split at e
          · cases e
            refine ⟨fun p hp => ?_, ?_, ?_, fun c hc => ?_, fun c hc => ?_⟩
            · rw [List.length_append]
              rcases List.mem_cons.1 hp with rfl | hp
              · simp
              · have := ih.idx p hp; simp; omega
            · simp only [List.map_cons, List.nodup_cons]
              exact ⟨lookup_none hl, ih.nodup⟩
            · have := ih.len; simp; omega
            · rcases List.mem_append.1 hc with hc | hc
              · have := ih.cb c hc; omega
              · rw [List.mem_singleton.1 hc]; show k < k + 1; omega
            · rcases List.mem_append.1 hc with hc | hc
              · have := ih.ce c hc; omega
              · rw [List.mem_singleton.1 hc]; show 0 < k + 1 + 1; omega
          · cases e
        · next i hl =>
          split at e
          · cases e
          · next c0 hc0 =>
            split at e
            · cases e
              refine ⟨fun p hp => ?_, ih.nodup.sublist ((List.filter_sublist).map _), by simp; have := ih.len; omega, fun c hc => ?_, fun c hc => ?_⟩
              · rw [List.length_set]; exact ih.idx p (List.mem_filter.1 hp).1
              · rcases List.mem_or_eq_of_mem_set hc with hc | rfl
                · have := ih.cb c hc; omega
                · have := ih.cb c0 (List.mem_of_getElem? hc0); show c0.b < k + 1; omega
              · rcases List.mem_or_eq_of_mem_set hc with hc | rfl
                · have := ih.ce c hc; omega
                · show k < k + 1 + 1; omega
            · cases e
end Go.Proofs.Ytihicdbplmdjiaa
