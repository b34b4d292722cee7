import Derived.Test.YtihicdbplmdjiaaGreatQPlB4J
set_option linter.unusedVariables false
set_option linter.unusedSimpArgs false
namespace Go.Proofs.YtihicdbplmdjiaaGreat.Pl

/-! ### a play, as plain data -/
abbrev OpT := Int × Int × ByteArray
structure RepT where
  ok : Bool
  val : ByteArray
  L : List Kv
def rep0 : RepT := ⟨false, ⟨#[]⟩, []⟩
structure Cl where
  ops : List OpT
  st : Nat
  lk : Nat
  rp : RepT
def cl0 : Cl := ⟨[], 0, 0, rep0⟩
structure MomT where
  c : Nat
  beg : Bool
  op : OpT
  rp : RepT
structure St where
  tab : List Kv
  lkd : Nat → Bool
  cls : List Cl
  last : Int
  ms : List MomT

def known (kd : Int) : Bool := kd == 1 || kd == 2 || kd == 3
def fromK (ops : List OpT) : List OpT := ops.dropWhile (fun o => !known o.1)
def needs (c : Cl) : Int :=
  if c.st ≠ 1 then -1 else
  match c.ops with
  | [] => -1
  | o :: _ => if o.1 ≠ 3 then (strp o.2.1 : Int) else if c.lk < 8 then (c.lk : Int) else -1
def canGo (s : St) (c : Cl) : Bool := !c.ops.isEmpty && (needs c == -1 || !s.lkd (needs c).toNat)
def ableTo (s : St) (n : Nat) : List Nat := (List.range n).filter (fun i => canGo s (s.cls.getD i cl0))
def able (s : St) : List Nat := ableTo s s.cls.length
def behindX (last : Int) (ab : List Nat) : Nat := (ab.find? (fun (i : Nat) => decide ((i : Int) > last))).getD (ab.headD 0)
def pickX (last : Int) (ab : List Nat) (script : List Int) (turn : Nat) : Nat :=
  if turn < script.length then ab.getD ((script.getD turn 0) % (ab.length : Int)).toNat 0 else behindX last ab

/-- A table as a rising list. -/
def look (t : List Kv) (k : Int) : Option ByteArray := (t.find? (fun e => e.1 == k)).map Prod.snd
def insK : List Kv → Int → ByteArray → List Kv
  | [], k, v => [(k, v)]
  | e :: r, k, v => if e.1 < k then e :: insK r k v else (k, v) :: e :: r

def actX (s : St) (i : Nat) (c : Cl) (op : OpT) : St :=
  if op.1 = 1 then
    match look s.tab op.2.1 with
    | some _ => { s with cls := s.cls.set i { c with st := 2, lk := 0, rp := ⟨false, ⟨#[]⟩, []⟩ } }
    | none => { s with tab := insK s.tab op.2.1 op.2.2, cls := s.cls.set i { c with st := 2, lk := 0, rp := ⟨true, ⟨#[]⟩, []⟩ } }
  else if op.1 = 2 then { s with cls := s.cls.set i { c with st := 2, lk := 0, rp := ⟨(look s.tab op.2.1).isSome, (look s.tab op.2.1).getD ⟨#[]⟩, []⟩ } }
  else if op.1 = 3 then
    if c.lk < 8 then { s with lkd := fun j => if j = c.lk then true else s.lkd j, cls := s.cls.set i { c with lk := c.lk + 1 } }
    else { s with lkd := fun _ => false, cls := s.cls.set i { c with st := 2, lk := 0, rp := ⟨true, ⟨#[]⟩, s.tab⟩ } }
  else s
def stepX (s : St) (i : Nat) : St :=
  let c := s.cls.getD i cl0
  match c.ops with
  | [] => s
  | op :: rest =>
    if c.st = 0 then { s with ms := s.ms ++ [⟨i, true, op, rep0⟩], cls := s.cls.set i { c with st := 1 } }
    else if c.st = 1 then actX s i c op
    else { s with ms := s.ms ++ [⟨i, false, op, c.rp⟩], cls := s.cls.set i { c with st := 0, ops := fromK rest } }

/-- The states of a play, one behind the other; at its end it stays. -/
def iter (script : List Int) (s0 : St) : Nat → St
  | 0 => s0
  | k + 1 =>
    let s := iter script s0 k
    if able s = [] then s else
    let p := pickX s.last (able s) script k
    stepX { s with last := p } p
def begin0 (cl : List (List OpT)) : St := ⟨[], fun _ => false, cl.map (fun l => ⟨fromK l, 0, 0, rep0⟩), -1, []⟩

/-! ### how long it goes on -/
def cost (o : OpT) : Nat := if o.1 = 3 then 11 else 3
def costs (l : List OpT) : Nat := (l.map cost).sum
def mu1 (c : Cl) : Nat := if c.st = 0 then costs c.ops else if c.st = 1 then costs c.ops - 1 - c.lk else costs c.ops.tail + 1
def mu (s : St) : Nat := (s.cls.map mu1).sum

/-- What a client is at all times. -/
structure ClOk (c : Cl) : Prop where
  st : c.st ≤ 2
  lk : c.lk ≤ 8
  empty : c.ops = [] → c.st = 0
  first : ∀ o r, c.ops = o :: r → known o.1 = true
  lk0 : c.st ≠ 1 → c.lk = 0
  lk1 : ∀ o r, c.ops = o :: r → o.1 ≠ 3 → c.lk = 0
  keys : ∀ o ∈ c.ops, In64 o.2.1
def StOk (s : St) : Prop := ∀ c ∈ s.cls, ClOk c

theorem sum_set {l : List Nat} {i x : Nat} (h : i < l.length) : (l.set i x).sum + l[i] = l.sum + x := by
  induction l generalizing i with
  | nil => simp at h
  | cons y r ih =>
    cases i with
    | zero => simp; omega
    | succ i =>
      have := ih (i := i) (by simpa using h)
      simp
      omega
theorem mu_set {s : St} {i : Nat} {c' : Cl} (h : i < s.cls.length) : ((s.cls.set i c').map mu1).sum + mu1 s.cls[i] = mu s + mu1 c' := by
  have := sum_set (l := s.cls.map mu1) (i := i) (x := mu1 c') (by simpa using h)
  rw [List.map_set]
  simpa [mu] using this
theorem costs_cons (o : OpT) (r : List OpT) : costs (o :: r) = cost o + costs r := by simp [costs]
theorem cost_ge (o : OpT) : 3 ≤ cost o := by unfold cost; split <;> omega
theorem costs_fromK (l : List OpT) : costs (fromK l) ≤ costs l := by
  induction l with
  | nil => simp [fromK]
  | cons o r ih =>
    unfold fromK at ih ⊢
    rw [List.dropWhile_cons]
    split
    · rw [costs_cons]; omega
    · exact Nat.le_refl _
theorem fromK_first (l : List OpT) : ∀ o r, fromK l = o :: r → known o.1 = true := by
  induction l with
  | nil => intro o r h; cases h
  | cons x r ih =>
    intro o r' h
    unfold fromK at h ih
    rw [List.dropWhile_cons] at h
    split at h
    · exact ih o r' h
    · rename_i hk
      cases h
      simpa using hk
theorem fromK_mem {l : List OpT} {o : OpT} (h : o ∈ fromK l) : o ∈ l := (List.dropWhile_sublist _).mem h
theorem clOk_begin (l : List OpT) (h : ∀ o ∈ l, In64 o.2.1) : ClOk ⟨fromK l, 0, 0, rep0⟩ :=
  ⟨Nat.zero_le _, Nat.zero_le _, fun _ => rfl, fun o r e => fromK_first l o r e, fun _ => rfl, fun _ _ _ _ => rfl, fun o ho => h o (fromK_mem ho)⟩
theorem mem_set {α : Type} {l : List α} {i : Nat} {x y : α} (h : y ∈ l.set i x) : y ∈ l ∨ y = x := by
  rcases List.mem_or_eq_of_mem_set h with h | h
  · exact Or.inl h
  · exact Or.inr h

theorem able_mem {s : St} {i : Nat} (h : i ∈ able s) : ∃ hi : i < s.cls.length, canGo s s.cls[i] = true := by
  unfold able ableTo at h
  rw [List.mem_filter] at h
  have hi : i < s.cls.length := List.mem_range.1 h.1
  refine ⟨hi, ?_⟩
  have := h.2
  rw [List.getD_eq_getElem?_getD, List.getElem?_eq_getElem hi] at this
  exact this

theorem clOk_mk {o : OpT} {r : List OpT} {st lk : Nat} {rp : RepT} (hk : known o.1 = true) (hkeys : ∀ x ∈ o :: r, In64 x.2.1) (hst : st ≤ 2) (hlk : lk ≤ 8) (h0 : st ≠ 1 → lk = 0) (h1 : o.1 ≠ 3 → lk = 0) : ClOk ⟨o :: r, st, lk, rp⟩ :=
  ⟨hst, hlk, (fun e => by cases e), (fun o' r' e => by cases e; exact hk), h0, (fun o' r' e hne => by cases e; exact h1 hne), hkeys⟩

/-- A step of one who can go on: all stays in order, and less is to be done. -/
theorem step_ok {s : St} (h : StOk s) {i : Nat} (hi : i ∈ able s) (last : Int) : StOk (stepX { s with last := last } i) ∧ mu (stepX { s with last := last } i) + 1 ≤ mu s ∧ (stepX { s with last := last } i).cls.length = s.cls.length ∧ (stepX { s with last := last } i).last = last := by
  obtain ⟨hl, hc⟩ := able_mem hi
  have hcl := h s.cls[i] (List.getElem_mem hl)
  have hg : ({ s with last := last } : St).cls.getD i cl0 = s.cls[i] := by rw [List.getD_eq_getElem?_getD]; simp [hl]
  unfold stepX
  simp only [hg]
  have hms : ∀ c' : Cl, mu1 c' + 1 ≤ mu1 s.cls[i] → ((s.cls.set i c').map mu1).sum + 1 ≤ mu s := fun c' hc' => by have := mu_set (c' := c') hl; omega
  have hok : ∀ c' : Cl, ClOk c' → ∀ c ∈ s.cls.set i c', ClOk c := fun c' hc' c hm => by
    rcases mem_set hm with e | rfl
    · exact h c e
    · exact hc'
  obtain ⟨c, ec⟩ : ∃ c, c = s.cls[i] := ⟨_, rfl⟩
  rw [← ec] at hcl hc hms ⊢
  clear ec hg
  obtain ⟨ops, st, lk, rp⟩ := c
  cases ops with
  | nil => simp [canGo] at hc
  | cons o r =>
    have hk := hcl.first o r rfl
    have hkeys := hcl.keys
    have hco := cost_ge o
    have hst := hcl.st
    have hl8 := hcl.lk
    have hl0 := hcl.lk0
    have hl1 := hcl.lk1 o r rfl
    simp only at hkeys hst hl8 hl0 hl1 ⊢
    by_cases h0 : st = 0
    · subst h0
      rw [if_pos rfl]
      have hlk : lk = 0 := hl0 (by omega)
      subst hlk
      refine ⟨hok _ (clOk_mk hk hkeys (by omega) (by omega) (fun _ => rfl) (fun _ => rfl)), hms _ ?_, by simp, rfl⟩
      simp only [mu1, costs_cons]
      simp
      omega
    · rw [if_neg h0]
      by_cases h1 : st = 1
      · subst h1
        rw [if_pos rfl]
        have h2' : ∀ rp', ClOk ⟨o :: r, 2, 0, rp'⟩ := fun rp' => clOk_mk hk hkeys (by omega) (by omega) (fun _ => rfl) (fun _ => rfl)
        unfold actX
        by_cases k1 : o.1 = 1
        · have hlk : lk = 0 := hl1 (by omega)
          subst hlk
          have hm : ∀ rp', mu1 ⟨o :: r, 2, 0, rp'⟩ + 1 ≤ mu1 ⟨o :: r, 1, 0, rp⟩ := fun rp' => by
            simp only [mu1, costs_cons, List.tail_cons]
            simp
            omega
          rw [if_pos k1]
          simp only
          split
          · exact ⟨hok _ (h2' _), hms _ (hm _), by simp, rfl⟩
          · exact ⟨hok _ (h2' _), hms _ (hm _), by simp, rfl⟩
        · rw [if_neg k1]
          by_cases k2 : o.1 = 2
          · have hlk : lk = 0 := hl1 (by omega)
            subst hlk
            rw [if_pos k2]
            refine ⟨hok _ (h2' _), hms _ ?_, by simp, rfl⟩
            simp only [mu1, costs_cons, List.tail_cons]
            simp
            omega
          · rw [if_neg k2]
            have k3 : o.1 = 3 := by simp [known] at hk; omega
            rw [if_pos k3]
            have hc11 : cost o = 11 := by simp [cost, k3]
            simp only
            by_cases hl8' : lk < 8
            · rw [if_pos hl8']
              refine ⟨hok _ (clOk_mk hk hkeys (by omega) (by omega) (fun e => absurd rfl e) (fun e => absurd k3 e)), hms _ ?_, by simp, rfl⟩
              simp only [mu1, costs_cons]
              simp
              omega
            · rw [if_neg hl8']
              refine ⟨hok _ (h2' _), hms _ ?_, by simp, rfl⟩
              simp only [mu1, costs_cons, List.tail_cons]
              simp
              omega
      · rw [if_neg h1]
        have h2 : st = 2 := by omega
        subst h2
        have hlk : lk = 0 := hl0 (by omega)
        subst hlk
        refine ⟨hok _ ⟨Nat.zero_le _, Nat.zero_le _, fun _ => rfl, fun o' r' e => fromK_first r o' r' e, fun _ => rfl, fun o' r' _ _ => rfl, fun o' ho' => hkeys o' (List.mem_cons_of_mem _ (fromK_mem ho'))⟩, hms _ ?_, by simp, rfl⟩
        have := costs_fromK r
        simp only [mu1, List.tail_cons]
        simp
        omega
end Go.Proofs.YtihicdbplmdjiaaGreat.Pl
