import Derived.Test.YtgcekpmkniipfaaQB5
import Derived.Test.YtgcekpmkniipfaaQS1
namespace Go.Proofs.Ytgcekpmkniipfaa
open Go.Shelf Go.RowKit Go.Lib Go.Sort
set_option linter.unusedVariables false
set_option linter.unusedSimpArgs false

def encP (x : Kv) : List Value := [vI x.1, .string x.2]
theorem ltP (x y : Kv) : ltOf (fun x y : Kv => cmpI x.1 y.1) x y = decide (x.1 < y.1) := by
  unfold ltOf cmpI
  by_cases h1 : x.1 < y.1
  · simp [h1]
  · by_cases h2 : y.1 < x.1 <;> simp [h1, h2]
theorem swoP : SWO (ltOf fun x y : Kv => cmpI x.1 y.1) where
  irrefl x := by rw [ltP]; simp
  trans x y z h1 h2 := by rw [ltP] at *; simp at *; omega
  ntrans x y z h1 h2 := by rw [ltP] at *; simp at *; omega

theorem cmpLays28 (blk off size : Nat) (w : World) : CmpLays Try.prog 28 #[] encP 2 (fun x y => cmpI x.1 y.1) blk off size w := fun m os dk hs x y => by
  refine (closure28 x y _).mono ?_
  rintro e w' ⟨he, hw⟩
  exact ⟨he, 0, _, by rw [hw, alloc_eq_grow, alloc_eq_grow, grow_grow]; rfl⟩

theorem fr_sortWorld (w : World) (blk off n : Nat) (d : Array Kv) (os : Array Obj) (hb : blk < w.heap.size) : Fr (fun j => j = blk) w (sortWorldK encP 2 w blk off n d os) := by
  refine ⟨rfl, rfl, rfl, ?_, ?_⟩
  · exact size_sortWorldK_c encP 2 w blk off n d os
  · intro j hj hne
    unfold sortWorldK grow putRowK putRow mapBlock Sort.ahead
    simp only
    rw [Array.getElem?_append_left (by simpa using hj), Array.getElem?_modify, if_neg (fun e => hne e.symm)]

theorem flat_at (d : Array Kv) (i : Nat) (h : i < d.size) : (flatK encP 2 d)[i * 2]! = vI d[i].1 ∧ (flatK encP 2 d)[i * 2 + 1]! = .string d[i].2 := by
  rw [get_flatK encP 2 d (i * 2) (by omega), get_flatK encP 2 d (i * 2 + 1) (by omega), show i * 2 / 2 = i by omega, show (i * 2 + 1) / 2 = i by omega, show i * 2 % 2 = 0 by omega, show (i * 2 + 1) % 2 = 1 by omega, getElem!_pos d i h]
  exact ⟨rfl, rfl⟩
theorem holds_of {w : World} {B g cap : Nat} {L : List Kv} (h : OwnP w B (.slice (some ⟨g, 0, none⟩) L.length cap) L) : HoldsK encP 2 w g 0 L.toArray ∧ g < w.heap.size := by
  rcases h.2 with ⟨h2, -⟩ | ⟨g', cap', cur, e, h3, h4, h5, h6, h7, h8⟩
  · cases h2
  · cases e
    refine ⟨fun j hj => ?_, heap_lt h4⟩
    rw [size_flatK] at hj
    have hj' : j < L.length * 2 := by simpa using hj
    have hfz : w.frozen? ⟨g, 0 + j, none⟩ = false := frozen_of h4 _
    refine ⟨?_, hfz⟩
    have key : cur[j]? = (pCells L)[j]? := by rw [← h8, List.getElem?_take, if_pos hj', Array.getElem?_toList]
    rw [Nat.zero_add, cell_of h4, key]
    obtain ⟨k0, k1⟩ := pCells_get L (j / 2) (by omega)
    obtain ⟨f0, f1⟩ := flat_at L.toArray (j / 2) (by simp; omega)
    by_cases e : j % 2 = 0
    · have ej : j / 2 * 2 = j := by omega
      rw [ej] at k0 f0
      rw [k0, id, f0]; simp
    · have ej : j / 2 * 2 + 1 = j := by omega
      rw [ej] at k1 f1
      rw [k1, id, f1]; simp
theorem pa_of {w : World} {g cap : Nat} {d : Array Kv} (h : HoldsK encP 2 w g 0 d) (hg : g < w.heap.size) : PA w (.slice (some ⟨g, 0, none⟩) d.size cap) d.toList := by
  refine ⟨_, cap, by simp, fun _ => ⟨g, rfl, hg, fun i hi => ?_⟩⟩
  have hi' : i < d.size := by simpa using hi
  obtain ⟨f0, f1⟩ := flat_at d i hi'
  have a0 := (h (i * 2) (by rw [size_flatK]; omega)).1
  have a1 := (h (i * 2 + 1) (by rw [size_flatK]; omega)).1
  rw [Nat.zero_add, f0] at a0
  rw [Nat.zero_add, f1] at a1
  exact ⟨by rw [a0]; simp, by rw [a1]; simp⟩

theorem sort_row (w : World) (B g cap : Nat) (L : List Kv) (h : OwnP w B (.slice (some ⟨g, 0, none⟩) L.length cap) L) (hL : L.length ≤ 1000000000000) :
    Calls Try.prog 27 #[.slice (some ⟨g, 0, none⟩) L.length cap, .func (.func 28) #[] #[]] w fun e w' => e = .returned (.tuple #[]) ∧ ∃ L', L'.Perm L ∧ L'.Pairwise (fun x y => ¬ y.1 < x.1) ∧ PA w' (.slice (some ⟨g, 0, none⟩) L.length cap) L' ∧ Fr (fun j => (Value.slice (some ⟨g, 0, none⟩) L.length cap).ownBlock = some j) w w' := by
  obtain ⟨hH, hg⟩ := holds_of h
  have eg : ∀ args w, (callFunc 28 args).run Try.prog w = .ok (.enter 28 args) w := enters_of Try.func28 (by kernel_rfl) rfl
  have hcon := AnyQ.slices_SortFunc sortL 2 Try.isAgg90 Try.sizeOf90 encP (fun _ => rfl) (fun x v hv => by simp [encP] at hv; rcases hv with rfl | rfl <;> rfl) (fun x y => cmpI x.1 y.1) swoP 28 #[] g 0 cap L.toArray w eg (cmpLays28 g 0 _ w) hH hg (by simp; omega)
  change Calls Try.prog 27 #[.slice (some ⟨g, 0, none⟩) L.toArray.size cap, _] _ _ at hcon
  rw [List.size_toArray] at hcon
  refine hcon.mono ?_
  rintro e w' ⟨rfl, d', n, os, hp, hs, rfl⟩
  have hsz : d'.size = L.length := by simpa using hp.1
  have hperm : d'.toList.Perm L := by
    have := hp.2.2
    rw [show (d'.extract 0 L.length) = d' by rw [← hsz]; simp] at this
    simpa using this
  refine ⟨rfl, d'.toList, hperm, ?_, ?_, (fr_sortWorld w g 0 n d' os hg).mono (fun j _ e => by rw [e]; rfl)⟩
  · rw [List.pairwise_iff_getElem]
    intro i j hi hj hij
    have hi' : i < d'.size := by simpa using hi
    have hj' : j < d'.size := by simpa using hj
    have h1 := hs i j (Nat.zero_le _) hij (by omega)
    rw [ltP, getElem!_pos d' i hi', getElem!_pos d' j hj'] at h1
    simpa using h1
  · have := pa_of (cap := cap) (holdsK_sortWorldK_c encP 2 w g 0 L.toArray d' n os hH hg (by simp; omega)) (lt_sortWorldK encP 2 w g 0 n d' os hg)
    rw [hsz] at this
    exact this
end Go.Proofs.Ytgcekpmkniipfaa

namespace Go.Proofs.Ytgcekpmkniipfaa
open Go.RowKit (wrap32 wrap64)
set_option linter.unusedVariables false
set_option linter.unusedSimpArgs false

set_option maxRecDepth 100000 in
set_option maxHeartbeats 2000000 in
theorem ins_nil (fv : Value) (w : World) : Calls Try.prog 65 #[.slice none 0 0, vI 0, vI 0, fv] w fun e w' => e = .returned (.tuple #[]) ∧ w' = w := by
  go_enter Try.func65, Try.ntmps65
  go_wp2_with fail
  refine wp_loop_rounds 1 ?_
  rw [rounds_succ]
  go_wp2_with fail
  go_end0
  exact ⟨rfl, rfl⟩

set_option maxRecDepth 100000 in
set_option maxHeartbeats 2000000 in
theorem pdq_nil (fv : Value) (l : Int) (w : World) : Calls Try.prog 49 #[.slice none 0 0, vI 0, vI 0, vI l, fv] w fun e w' => e = .returned (.tuple #[]) ∧ w' = w := by
  go_enter Try.func49, Try.ntmps49
  go_wp2_with fail
  refine wp_loop_rounds 1 ?_
  rw [rounds_succ]
  go_wp2_with (go_at_call 65; refine (ins_nil fv _).mono ?_; rintro _ _ ⟨rfl, rfl⟩)
  first | go_end0 | (refine bodyPost_ret (results_none rfl _ _ _) rfl ?_)
  exact ⟨rfl, rfl⟩

set_option maxRecDepth 100000 in
set_option maxHeartbeats 2000000 in
theorem sort_nil (fv : Value) (w : World) : Calls Try.prog 27 #[.slice none 0 0, fv] w fun e w' => e = .returned (.tuple #[]) ∧ w' = w := by
  have hl := Any.bits_Len (SlLaysF0.n15.bits (P := Try.prog) (ρ := sortL_ren) { sortL with }) 0 w (by omega) (by omega)
  change Calls Try.prog 50 _ _ _ at hl
  go_enter Try.func27, Try.ntmps27
  go_wp2_with (first
    | (go_at_call 50; refine hl.mono ?_; rintro _ _ ⟨rfl, rfl⟩)
    | (go_at_call 49; refine (pdq_nil fv _ _).mono ?_; rintro _ _ ⟨rfl, rfl⟩))
  go_end0
  exact ⟨rfl, rfl⟩

theorem sort_any : SortSaid := fun w B v L h hL => by
  rcases h.2 with ⟨rfl, h3⟩ | ⟨g, cap, cur, rfl, h3⟩
  · obtain rfl := List.eq_nil_of_length_eq_zero h3
    refine (sort_nil _ w).mono ?_
    rintro e w' ⟨rfl, rfl⟩
    exact ⟨rfl, [], List.Perm.refl _, List.Pairwise.nil, ⟨none, 0, rfl, fun h => absurd rfl h⟩, Fr.refl _ _⟩
  · exact sort_row w B g cap L h hL

theorem snapshot_any (b : Nat) (g : Gh) (N : Nat) (a : Ab) (w : World) (h : Tb w b g N a) (hN : N ≤ 100000000000) :
    Calls Try.prog 8 #[.pointer (some ⟨b, 0, none⟩)] w fun e w' => ∃ kb vb L, e = .returned (.tuple #[.slice (some ⟨kb, 0, none⟩) L.length L.length, .slice (some ⟨vb, 0, none⟩) L.length L.length]) ∧ w.heap.size ≤ kb ∧ w.heap.size ≤ vb ∧ SnapAt w' kb vb L ∧ Snap a L ∧ L.length ≤ N * 8 ∧ Tb w' b g N a ∧ Fr (fun j => j = b) w w' :=
  snapshot_of sort_any b g N a w h hN
end Go.Proofs.Ytgcekpmkniipfaa

namespace Go.Proofs.Ytgcekpmkniipfaa
set_option linter.unusedVariables false
set_option linter.unusedSimpArgs false

/-! ### a play, as plain data -/
abbrev OpT := Int × Int × ByteArray
structure RepT where
  ok : Bool
  val : ByteArray
  L : List Kv
def rep0 : RepT := ⟨false, ⟨#[]⟩, []⟩
structure Cl where
  ops : List OpT
  st : Nat
  lk : Nat
  rp : RepT
def cl0 : Cl := ⟨[], 0, 0, rep0⟩
structure MomT where
  c : Nat
  beg : Bool
  op : OpT
  rp : RepT
structure St where
  tab : List Kv
  lkd : Nat → Bool
  cls : List Cl
  last : Int
  ms : List MomT

def known (kd : Int) : Bool := kd == 1 || kd == 2 || kd == 3
def fromK (ops : List OpT) : List OpT := ops.dropWhile (fun o => !known o.1)
def needs (c : Cl) : Int :=
  if c.st ≠ 1 then -1 else
  match c.ops with
  | [] => -1
  | o :: _ => if o.1 ≠ 3 then (strp o.2.1 : Int) else if c.lk < 8 then (c.lk : Int) else -1
def canGo (s : St) (c : Cl) : Bool := !c.ops.isEmpty && (needs c == -1 || !s.lkd (needs c).toNat)
def ableTo (s : St) (n : Nat) : List Nat := (List.range n).filter (fun i => canGo s (s.cls.getD i cl0))
def able (s : St) : List Nat := ableTo s s.cls.length
def behindX (last : Int) (ab : List Nat) : Nat := (ab.find? (fun (i : Nat) => decide ((i : Int) > last))).getD (ab.headD 0)
def pickX (last : Int) (ab : List Nat) (script : List Int) (turn : Nat) : Nat :=
  if turn < script.length then ab.getD ((script.getD turn 0) % (ab.length : Int)).toNat 0 else behindX last ab

/-- A table as a rising list. -/
def look (t : List Kv) (k : Int) : Option ByteArray := (t.find? (fun e => e.1 == k)).map Prod.snd
def insK : List Kv → Int → ByteArray → List Kv
  | [], k, v => [(k, v)]
  | e :: r, k, v => if e.1 < k then e :: insK r k v else (k, v) :: e :: r

def actX (s : St) (i : Nat) (c : Cl) (op : OpT) : St :=
  if op.1 = 1 then
    match look s.tab op.2.1 with
    | some _ => { s with cls := s.cls.set i { c with st := 2, lk := 0, rp := ⟨false, ⟨#[]⟩, []⟩ } }
    | none => { s with tab := insK s.tab op.2.1 op.2.2, cls := s.cls.set i { c with st := 2, lk := 0, rp := ⟨true, ⟨#[]⟩, []⟩ } }
  else if op.1 = 2 then { s with cls := s.cls.set i { c with st := 2, lk := 0, rp := ⟨(look s.tab op.2.1).isSome, (look s.tab op.2.1).getD ⟨#[]⟩, []⟩ } }
  else if op.1 = 3 then
    if c.lk < 8 then { s with lkd := fun j => if j = c.lk then true else s.lkd j, cls := s.cls.set i { c with lk := c.lk + 1 } }
    else { s with lkd := fun _ => false, cls := s.cls.set i { c with st := 2, lk := 0, rp := ⟨true, ⟨#[]⟩, s.tab⟩ } }
  else s
def stepX (s : St) (i : Nat) : St :=
  let c := s.cls.getD i cl0
  match c.ops with
  | [] => s
  | op :: rest =>
    if c.st = 0 then { s with ms := s.ms ++ [⟨i, true, op, rep0⟩], cls := s.cls.set i { c with st := 1 } }
    else if c.st = 1 then actX s i c op
    else { s with ms := s.ms ++ [⟨i, false, op, c.rp⟩], cls := s.cls.set i { c with st := 0, ops := fromK rest } }

/-- The states of a play, one behind the other; at its end it stays. -/
def iter (script : List Int) (s0 : St) : Nat → St
  | 0 => s0
  | k + 1 =>
    let s := iter script s0 k
    if able s = [] then s else
    let p := pickX s.last (able s) script k
    stepX { s with last := p } p
def begin0 (cl : List (List OpT)) : St := ⟨[], fun _ => false, cl.map (fun l => ⟨fromK l, 0, 0, rep0⟩), -1, []⟩

/-! ### how long it goes on -/
def cost (o : OpT) : Nat := if o.1 = 3 then 11 else 3
def costs (l : List OpT) : Nat := (l.map cost).sum
def mu1 (c : Cl) : Nat := if c.st = 0 then costs c.ops else if c.st = 1 then costs c.ops - 1 - c.lk else costs c.ops.tail + 1
def mu (s : St) : Nat := (s.cls.map mu1).sum

/-- What a client is at all times. -/
structure ClOk (c : Cl) : Prop where
  st : c.st ≤ 2
  lk : c.lk ≤ 8
  empty : c.ops = [] → c.st = 0
  first : ∀ o r, c.ops = o :: r → known o.1 = true
  lk0 : c.st ≠ 1 → c.lk = 0
  lk1 : ∀ o r, c.ops = o :: r → o.1 ≠ 3 → c.lk = 0
  keys : ∀ o ∈ c.ops, In64 o.2.1
def StOk (s : St) : Prop := ∀ c ∈ s.cls, ClOk c

theorem sum_set {l : List Nat} {i x : Nat} (h : i < l.length) : (l.set i x).sum + l[i] = l.sum + x := by
  induction l generalizing i with
  | nil => simp at h
  | cons y r ih =>
    cases i with
    | zero => simp; omega
    | succ i =>
      have := ih (i := i) (by simpa using h)
      simp
      omega
theorem mu_set {s : St} {i : Nat} {c' : Cl} (h : i < s.cls.length) : ((s.cls.set i c').map mu1).sum + mu1 s.cls[i] = mu s + mu1 c' := by
  have := sum_set (l := s.cls.map mu1) (i := i) (x := mu1 c') (by simpa using h)
  rw [List.map_set]
  simpa [mu] using this
theorem costs_cons (o : OpT) (r : List OpT) : costs (o :: r) = cost o + costs r := by simp [costs]
theorem cost_ge (o : OpT) : 3 ≤ cost o := by unfold cost; split <;> omega
theorem costs_fromK (l : List OpT) : costs (fromK l) ≤ costs l := by
  induction l with
  | nil => simp [fromK]
  | cons o r ih =>
    unfold fromK at ih ⊢
    rw [List.dropWhile_cons]
    split
    · rw [costs_cons]; omega
    · exact Nat.le_refl _
theorem fromK_first (l : List OpT) : ∀ o r, fromK l = o :: r → known o.1 = true := by
  induction l with
  | nil => intro o r h; cases h
  | cons x r ih =>
    intro o r' h
    unfold fromK at h ih
    rw [List.dropWhile_cons] at h
    split at h
    · exact ih o r' h
    · rename_i hk
      cases h
      simpa using hk
theorem fromK_mem {l : List OpT} {o : OpT} (h : o ∈ fromK l) : o ∈ l := (List.dropWhile_sublist _).mem h
theorem clOk_begin (l : List OpT) (h : ∀ o ∈ l, In64 o.2.1) : ClOk ⟨fromK l, 0, 0, rep0⟩ :=
  ⟨Nat.zero_le _, Nat.zero_le _, fun _ => rfl, fun o r e => fromK_first l o r e, fun _ => rfl, fun _ _ _ _ => rfl, fun o ho => h o (fromK_mem ho)⟩
theorem mem_set {α : Type} {l : List α} {i : Nat} {x y : α} (h : y ∈ l.set i x) : y ∈ l ∨ y = x := by
  rcases List.mem_or_eq_of_mem_set h with h | h
  · exact Or.inl h
  · exact Or.inr h

theorem able_mem {s : St} {i : Nat} (h : i ∈ able s) : ∃ hi : i < s.cls.length, canGo s s.cls[i] = true := by
  unfold able ableTo at h
  rw [List.mem_filter] at h
  have hi : i < s.cls.length := List.mem_range.1 h.1
  refine ⟨hi, ?_⟩
  have := h.2
  rw [List.getD_eq_getElem?_getD, List.getElem?_eq_getElem hi] at this
  exact this

theorem clOk_mk {o : OpT} {r : List OpT} {st lk : Nat} {rp : RepT} (hk : known o.1 = true) (hkeys : ∀ x ∈ o :: r, In64 x.2.1) (hst : st ≤ 2) (hlk : lk ≤ 8) (h0 : st ≠ 1 → lk = 0) (h1 : o.1 ≠ 3 → lk = 0) : ClOk ⟨o :: r, st, lk, rp⟩ :=
  ⟨hst, hlk, (fun e => by cases e), (fun o' r' e => by cases e; exact hk), h0, (fun o' r' e hne => by cases e; exact h1 hne), hkeys⟩

/-- A step of one who can go on: all stays in order, and less is to be done. -/
theorem step_ok {s : St} (h : StOk s) {i : Nat} (hi : i ∈ able s) (last : Int) : StOk (stepX { s with last := last } i) ∧ mu (stepX { s with last := last } i) + 1 ≤ mu s ∧ (stepX { s with last := last } i).cls.length = s.cls.length ∧ (stepX { s with last := last } i).last = last := by
  obtain ⟨hl, hc⟩ := able_mem hi
  have hcl := h s.cls[i] (List.getElem_mem hl)
  have hg : ({ s with last := last } : St).cls.getD i cl0 = s.cls[i] := by rw [List.getD_eq_getElem?_getD]; simp [hl]
  unfold stepX
  simp only [hg]
  have hms : ∀ c' : Cl, mu1 c' + 1 ≤ mu1 s.cls[i] → ((s.cls.set i c').map mu1).sum + 1 ≤ mu s := fun c' hc' => by have := mu_set (c' := c') hl; omega
  have hok : ∀ c' : Cl, ClOk c' → ∀ c ∈ s.cls.set i c', ClOk c := fun c' hc' c hm => by
    rcases mem_set hm with e | rfl
    · exact h c e
    · exact hc'
  obtain ⟨c, ec⟩ : ∃ c, c = s.cls[i] := ⟨_, rfl⟩
  rw [← ec] at hcl hc hms ⊢
  clear ec hg
  obtain ⟨ops, st, lk, rp⟩ := c
  cases ops with
  | nil => simp [canGo] at hc
  | cons o r =>
    have hk := hcl.first o r rfl
    have hkeys := hcl.keys
    have hco := cost_ge o
    have hst := hcl.st
    have hl8 := hcl.lk
    have hl0 := hcl.lk0
    have hl1 := hcl.lk1 o r rfl
    simp only at hkeys hst hl8 hl0 hl1 ⊢
    by_cases h0 : st = 0
    · subst h0
      rw [if_pos rfl]
      have hlk : lk = 0 := hl0 (by omega)
      subst hlk
      refine ⟨hok _ (clOk_mk hk hkeys (by omega) (by omega) (fun _ => rfl) (fun _ => rfl)), hms _ ?_, by simp, rfl⟩
      simp only [mu1, costs_cons]
      simp
      omega
    · rw [if_neg h0]
      by_cases h1 : st = 1
      · subst h1
        rw [if_pos rfl]
        have h2' : ∀ rp', ClOk ⟨o :: r, 2, 0, rp'⟩ := fun rp' => clOk_mk hk hkeys (by omega) (by omega) (fun _ => rfl) (fun _ => rfl)
        unfold actX
        by_cases k1 : o.1 = 1
        · have hlk : lk = 0 := hl1 (by omega)
          subst hlk
          have hm : ∀ rp', mu1 ⟨o :: r, 2, 0, rp'⟩ + 1 ≤ mu1 ⟨o :: r, 1, 0, rp⟩ := fun rp' => by
            simp only [mu1, costs_cons, List.tail_cons]
            simp
            omega
          rw [if_pos k1]
          simp only
          split
          · exact ⟨hok _ (h2' _), hms _ (hm _), by simp, rfl⟩
          · exact ⟨hok _ (h2' _), hms _ (hm _), by simp, rfl⟩
        · rw [if_neg k1]
          by_cases k2 : o.1 = 2
          · have hlk : lk = 0 := hl1 (by omega)
            subst hlk
            rw [if_pos k2]
            refine ⟨hok _ (h2' _), hms _ ?_, by simp, rfl⟩
            simp only [mu1, costs_cons, List.tail_cons]
            simp
            omega
          · rw [if_neg k2]
            have k3 : o.1 = 3 := by simp [known] at hk; omega
            rw [if_pos k3]
            have hc11 : cost o = 11 := by simp [cost, k3]
            simp only
            by_cases hl8' : lk < 8
            · rw [if_pos hl8']
              refine ⟨hok _ (clOk_mk hk hkeys (by omega) (by omega) (fun e => absurd rfl e) (fun e => absurd k3 e)), hms _ ?_, by simp, rfl⟩
              simp only [mu1, costs_cons]
              simp
              omega
            · rw [if_neg hl8']
              refine ⟨hok _ (h2' _), hms _ ?_, by simp, rfl⟩
              simp only [mu1, costs_cons, List.tail_cons]
              simp
              omega
      · rw [if_neg h1]
        have h2 : st = 2 := by omega
        subst h2
        have hlk : lk = 0 := hl0 (by omega)
        subst hlk
        refine ⟨hok _ ⟨Nat.zero_le _, Nat.zero_le _, fun _ => rfl, fun o' r' e => fromK_first r o' r' e, fun _ => rfl, fun o' r' _ _ => rfl, fun o' ho' => hkeys o' (List.mem_cons_of_mem _ (fromK_mem ho'))⟩, hms _ ?_, by simp, rfl⟩
        have := costs_fromK r
        simp only [mu1, List.tail_cons]
        simp
        omega
end Go.Proofs.Ytgcekpmkniipfaa
