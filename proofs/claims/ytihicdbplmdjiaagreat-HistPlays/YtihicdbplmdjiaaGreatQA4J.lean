import Derived.Test.YtihicdbplmdjiaaGreatQA3
import Derived.Maps.Views
set_option linter.unusedVariables false
set_option linter.unusedSimpArgs false
namespace Go.Proofs.YtihicdbplmdjiaaGreat
open Go.RowKit (wrap32 wrap64)

/-! ### right calls and answers -/
abbrev emB (v : ByteArray) : Bool := v.toList.isEmpty
theorem beq_dec (a b : Int) : (a == b) = decide (a = b) := by by_cases h : a = b <;> simp [h]
def rightOpB (kd ky : Int) (v : ByteArray) : Bool := decide (kd = 1) || (decide (kd = 2) && emB v) || (decide (kd = 3) && emB v && decide (ky = 0))
def noKeysB (r : Rpl) : Bool := ((r.keys.length : Int) == 0) && ((r.vals.length : Int) == 0)
def isZeroB (r : Rpl) : Bool := !r.ok && emB r.val && noKeysB r
def riseB : List Int → Bool
  | a :: b :: l => decide (a < b) && riseB (b :: l)
  | _ => true
def rightReplyB (kd : Int) (r : Rpl) : Bool := if kd = 3 then r.ok && emB r.val && decide (r.keys.length = r.vals.length) && riseB r.keys else ((decide (kd = 2) && r.ok) || emB r.val) && noKeysB r

set_option maxHeartbeats 1000000 in
theorem rightOp_any (kd ky : Int) (v : ByteArray) (w : World) : Calls Tryz.prog 29 #[opV kd ky v] w fun e w' => e = .returned (.bool (rightOpB kd ky v)) ∧ Fr (fun _ => False) w w' := by
  unfold opV rightOpB
  have HF : Hd (Fr (fun _ => False) w (w.alloc (.cells #[vI kd, vI ky, .string v] 28))) := (Fr.refl _ w).alloc _
  by_cases h1 : kd = 1
  · subst h1
    go_enter Tryz.func29, Tryz.ntmps29
    go_wp2_with fail
    go_ret
    exact ⟨by simp, HF.out⟩
  · by_cases h2 : kd = 2
    · subst h2
      go_enter Tryz.func29, Tryz.ntmps29
      go_wp2_with fail
      go_ret
      exact ⟨by simp, HF.out⟩
    · by_cases h3 : kd = 3
      · subst h3
        obtain ⟨E, hE⟩ : ∃ E, E = emB v := ⟨_, rfl⟩
        go_enter Tryz.func29, Tryz.ntmps29
        go_wp2_with fail
        all_goals go_ret
        all_goals exact ⟨by simp_all [beq_dec], HF.out⟩
      · go_enter Tryz.func29, Tryz.ntmps29
        go_wp2_with fail
        go_ret
        exact ⟨by simp [h1, h2, h3], HF.out⟩

theorem row_slice {w : World} {v : Value} {xs : List Value} (h : RowAt w v xs) : ∃ ad c, v = .slice ad xs.length c := by obtain ⟨a, c, e, -⟩ := h; exact ⟨a, c, e⟩
set_option maxHeartbeats 1000000 in
theorem noKeys_any (R : RV) (w : World) (h : R.At w) : Calls Tryz.prog 54 #[R.V] w fun e w' => e = .returned (.bool (noKeysB R.r)) ∧ Fr (fun _ => False) w w' := by
  obtain ⟨h1, h2⟩ := h
  obtain ⟨ka, kc, ek⟩ := row_slice h1
  obtain ⟨va, vc, ev⟩ := row_slice h2
  clear h1 h2
  obtain ⟨⟨ok, val, ks, vs⟩, kv, vv⟩ := R
  unfold RV.V noKeysB
  simp only [List.length_map] at *
  subst ek ev
  have HF : Hd (Fr (fun _ => False) w (w.alloc (.cells #[.bool ok, .string val, .slice ka ks.length kc, .slice va vs.length vc] 39))) := (Fr.refl _ w).alloc _
  go_enter Tryz.func54, Tryz.ntmps54
  go_wp2_with fail
  all_goals go_ret
  all_goals exact ⟨by simp_all, (Fr.refl _ w).alloc _⟩

theorem riseB_iff : ∀ l : List Int, riseB l = true ↔ ∀ i (h : i + 1 < l.length), l[i] < l[i + 1]
  | [] => ⟨fun _ i h => by simp at h, fun _ => rfl⟩
  | [a] => ⟨fun _ i h => by simp at h, fun _ => rfl⟩
  | a :: b :: l => by
    unfold riseB
    rw [Bool.and_eq_true, decide_eq_true_eq, riseB_iff (b :: l)]
    constructor
    · rintro ⟨h1, h2⟩ i h
      cases i with
      | zero => exact h1
      | succ i => exact h2 i (by simpa using h)
    · intro h
      exact ⟨h 0 (by simp), fun i hi => h (i + 1) (by simpa using hi)⟩
theorem riseB_rises {l : List Int} (h : riseB l = true) : Rises l := by
  intro i j hj hi
  induction j with
  | zero => omega
  | succ j ih =>
    have h1 := (riseB_iff l).1 h j hj
    rcases Nat.lt_or_ge i j with h2 | h2
    · have := ih (by omega) h2
      omega
    · have e : i = j := by omega
      subst e
      exact h1

set_option maxRecDepth 100000 in
set_option maxHeartbeats 2000000 in
theorem rise_any (v : Value) (zs : List Int) (w : World) (h : RowAt w v (zs.map vI)) (hl : zs.length ≤ 1000000000000000000) :
    Calls Tryz.prog 55 #[v] w fun e w' => e = .returned (.bool (riseB zs)) ∧ Fr (fun _ => False) w w' := by
  obtain ⟨ad, cap, rfl, h1⟩ := h
  simp only [List.length_map] at h1 ⊢
  obtain ⟨n, hn⟩ : ∃ n, n = zs.length := ⟨_, rfl⟩
  have HN : Hd (n = zs.length) := hn
  have H1 : Hd (0 < zs.length → ∃ k o, ad = some ⟨k, o, none⟩ ∧ ∀ j (h : j < zs.length), w.cell? ⟨k, o + j, none⟩ = some (vI zs[j])) := fun hz => by
    obtain ⟨k, o, e1, e3⟩ := h1 (by intro e; rw [List.map_eq_nil_iff] at e; subst e; simp at hz)
    exact ⟨k, o, e1, fun j hj => by rw [e3 j (by simpa using hj)]; simp⟩
  rw [← hn] at hl ⊢
  clear h1 hn
  go_enter Tryz.func55, Tryz.ntmps55
  go_wp2_with fail
  go_loopw [3] (fun v wr => ∃ i : Nat, v = vI ((i : Int) + 1) ∧ (i ≤ n) ∧ Hd (Fr (fun _ => False) w wr ∧ ∀ t, t < i → ∀ h : t + 1 < zs.length, zs[t] < zs[t + 1])) (fun v _ => match v with | .int _ q => n + 1 - q.toNat | _ => 0)
  case atStart => exact ⟨0, rfl, by omega, Fr.refl _ _, fun t ht => absurd ht (by omega)⟩
  case round =>
    obtain ⟨i, rfl, hi, HF⟩ := hrel
    by_cases hlt : (i : Int) + 1 < n
    · have h0 : (0 : Int) ≤ i := by omega
      have h2 : (i : Int) < n := by omega
      have hm : i + 1 < zs.length := by have := HN.out; omega
      obtain ⟨k1, o1, rfl, hc1⟩ := H1.out (by omega)
      have d1 : wr.cell? ⟨k1, o1 + i, none⟩ = some (vI zs[i]) := (HF.out.1.cell (cell_lt (hc1 _ (by omega))) (fun h => h)).trans (hc1 _ _)
      have d2 : wr.cell? ⟨k1, o1 + (i + 1), none⟩ = some (vI zs[i + 1]) := (HF.out.1.cell (cell_lt (hc1 _ (by omega))) (fun h => h)).trans (hc1 _ _)
      have d3 : wr.cell? ⟨k1, o1 + ((i : Int) + 1).toNat, none⟩ = some (vI zs[i + 1]) := by rw [show ((i : Int) + 1).toNat = i + 1 by omega]; exact d2
      obtain ⟨x, hx⟩ : ∃ y, y = zs[i] := ⟨_, rfl⟩
      obtain ⟨y, hy⟩ : ∃ y, y = zs[i + 1] := ⟨_, rfl⟩
      rw [← hx] at d1
      rw [← hy] at d2 d3
      have HY : Hd (zs[i]? = some x ∧ zs[i + 1]? = some y) := ⟨by rw [List.getElem?_eq_getElem (by omega), hx], by rw [List.getElem?_eq_getElem hm, hy]⟩
      clear hc1 H1 hx hy hm
      by_cases hyx : y ≤ x
      · go_wp2_with fail
        go_region
        all_goals go_wp2_with fail
        all_goals go_ret
        all_goals
          refine ⟨?_, HF.out.1.drew⟩
          obtain ⟨e1, e2⟩ := HY.out
          obtain ⟨hm, e2⟩ := List.getElem?_eq_some_iff.1 e2
          obtain ⟨hm0, e1⟩ := List.getElem?_eq_some_iff.1 e1
          have : riseB zs = false := by
            rw [Bool.eq_false_iff]
            intro h
            have := (riseB_iff zs).1 h i hm
            rw [e1, e2] at this
            omega
          rw [this]
          rfl
      · go_wp2_with fail
        go_region
        all_goals go_wp2_with fail
        all_goals
          refine ⟨⟨i + 1, by simp, by omega, HF.out.1.drew, fun t ht h => ?_⟩, by simp; omega⟩
          obtain ⟨e1, e2⟩ := HY.out
          obtain ⟨hm, e2⟩ := List.getElem?_eq_some_iff.1 e2
          obtain ⟨hm0, e1⟩ := List.getElem?_eq_some_iff.1 e1
          rcases Nat.lt_or_ge t i with h2 | h2
          · exact HF.out.2 t h2 h
          · have e : t = i := by omega
            subst e
            rw [e1, e2]
            omega
    · go_wp2_with fail
      go_ret
      refine ⟨?_, HF.out.1⟩
      have : riseB zs = true := (riseB_iff zs).2 fun t ht => HF.out.2 t (by have := HN.out; omega) ht
      rw [this]
      rfl

set_option maxHeartbeats 2000000 in
theorem isZero_any (R : RV) (w : World) (h : R.At w) : Calls Tryz.prog 30 #[R.V] w fun e w' => e = .returned (.bool (isZeroB R.r)) ∧ Fr (fun _ => False) w w' := by
  have HS : Hd (∀ W, Fr (fun _ => False) w W → Calls Tryz.prog 54 #[R.V] W fun e w' => e = .returned (.bool (noKeysB R.r)) ∧ Fr (fun _ => False) W w') := fun W f => noKeys_any R W (h.fr f)
  unfold isZeroB
  obtain ⟨N, hN⟩ : ∃ N, N = noKeysB R.r := ⟨_, rfl⟩
  rw [← hN] at HS ⊢
  clear hN h
  obtain ⟨⟨ok, val, ks, vs⟩, kv, vv⟩ := R
  unfold RV.V at *
  simp only at *
  have HF : Hd (Fr (fun _ => False) w (w.alloc (.cells #[.bool ok, .string val, kv, vv] 39))) := (Fr.refl _ w).alloc _
  have hc := HS.out _ HF.out
  clear HS
  cases ok
  · go_enter Tryz.func30, Tryz.ntmps30
    go_wp2_with (go_at_call 54; refine hc.mono ?_; rintro _ w3 ⟨rfl, hf3⟩; have HF3 : Hd _ := hf3; clear hf3)
    all_goals go_ret
    all_goals first | exact ⟨by simp_all, HF.out.trans HF3.out⟩ | exact ⟨by simp_all, HF.out⟩
  · go_enter Tryz.func30, Tryz.ntmps30
    go_wp2_with fail
    all_goals go_ret
    all_goals exact ⟨by simp_all, HF.out⟩

set_option maxHeartbeats 4000000 in
theorem rightReply_any (kd : Int) (R : RV) (w : World) (h : R.At w) (hl : R.r.keys.length ≤ 1000000000000000000) : Calls Tryz.prog 31 #[vI kd, R.V] w fun e w' => e = .returned (.bool (rightReplyB kd R.r)) ∧ Fr (fun _ => False) w w' := by
  have HS : Hd (∀ W, Fr (fun _ => False) w W → Calls Tryz.prog 54 #[R.V] W fun e w' => e = .returned (.bool (noKeysB R.r)) ∧ Fr (fun _ => False) W w') := fun W f => noKeys_any R W (h.fr f)
  have HT : Hd (∀ W, Fr (fun _ => False) w W → Calls Tryz.prog 55 #[R.kv] W fun e w' => e = .returned (.bool (riseB R.r.keys)) ∧ Fr (fun _ => False) W w') := fun W f => rise_any R.kv R.r.keys W (h.fr f).1 hl
  unfold rightReplyB
  obtain ⟨N, hN⟩ : ∃ N, N = noKeysB R.r := ⟨_, rfl⟩
  obtain ⟨T, hT⟩ : ∃ N, N = riseB R.r.keys := ⟨_, rfl⟩
  rw [← hN] at HS ⊢
  rw [← hT] at HT ⊢
  clear hN hT hl
  obtain ⟨h1, h2⟩ := h
  obtain ⟨ka, kc, ek⟩ := row_slice h1
  obtain ⟨va, vc, ev⟩ := row_slice h2
  clear h1 h2
  obtain ⟨⟨ok, val, ks, vs⟩, kv, vv⟩ := R
  unfold RV.V at *
  simp only [List.length_map] at *
  subst ek ev
  have HF : Hd (Fr (fun _ => False) w (w.alloc (.cells #[.bool ok, .string val, .slice ka ks.length kc, .slice va vs.length vc] 39))) := (Fr.refl _ w).alloc _
  have hc := HS.out _ HF.out
  have hd := HT.out _ HF.out
  clear HS HT
  obtain ⟨E, hE⟩ : ∃ E, E = val.toList.isEmpty := ⟨_, rfl⟩
  have hE2 : emB val = E := hE.symm
  rw [hE2]
  replace hE := hE.symm
  clear hE2
  by_cases hk : kd = 3
  · subst hk
    obtain ⟨nk, hnk⟩ : ∃ n, n = ks.length := ⟨_, rfl⟩
    obtain ⟨nv, hnv⟩ : ∃ n, n = vs.length := ⟨_, rfl⟩
    rw [← hnk] at HF hc hd ⊢
    rw [← hnv] at HF hc hd ⊢
    clear hnk hnv
    cases ok
    · go_enter Tryz.func31, Tryz.ntmps31
      go_wp2_with (go_at_call 55; refine hd.mono ?_; rintro _ w3 ⟨rfl, hf3⟩; have HF3 : Hd _ := hf3; clear hf3)
      go_ret
      first | exact ⟨by clear hc hd HF HF3; simp_all, HF.out.trans HF3.out⟩ | exact ⟨by clear hc hd HF; simp_all, HF.out⟩
    · cases E
      · go_enter Tryz.func31, Tryz.ntmps31
        go_wp2_with (go_at_call 55; refine hd.mono ?_; rintro _ w3 ⟨rfl, hf3⟩; have HF3 : Hd _ := hf3; clear hf3)
        go_ret
        first | exact ⟨by clear hc hd HF HF3; simp_all, HF.out.trans HF3.out⟩ | exact ⟨by clear hc hd HF; simp_all, HF.out⟩
      · by_cases hnn : nk = nv
        · subst hnn
          go_enter Tryz.func31, Tryz.ntmps31
          go_wp2_with (go_at_call 55; refine hd.mono ?_; rintro _ w3 ⟨rfl, hf3⟩; have HF3 : Hd _ := hf3; clear hf3)
          go_ret
          first | exact ⟨by clear hc hd HF HF3; simp_all, HF.out.trans HF3.out⟩ | exact ⟨by clear hc hd HF; simp_all, HF.out⟩
        · have hnn2 : ((nk : Int) == (nv : Int)) = false := by simp; omega
          go_enter Tryz.func31, Tryz.ntmps31
          go_wp2_with (go_at_call 55; refine hd.mono ?_; rintro _ w3 ⟨rfl, hf3⟩; have HF3 : Hd _ := hf3; clear hf3)
          go_ret
          first | exact ⟨by clear hc hd HF HF3; simp_all, HF.out.trans HF3.out⟩ | exact ⟨by clear hc hd HF; simp_all, HF.out⟩
  · by_cases hk2 : kd = 2
    · subst hk2
      cases ok
      · cases E
        · go_enter Tryz.func31, Tryz.ntmps31
          go_wp2_with (go_at_call 54; refine hc.mono ?_; rintro _ w3 ⟨rfl, hf3⟩; have HF3 : Hd _ := hf3; clear hf3)
          go_ret
          first | exact ⟨by clear hc hd HF HF3; simp_all, HF.out.trans HF3.out⟩ | exact ⟨by clear hc hd HF; simp_all, HF.out⟩
        · go_enter Tryz.func31, Tryz.ntmps31
          go_wp2_with (go_at_call 54; refine hc.mono ?_; rintro _ w3 ⟨rfl, hf3⟩; have HF3 : Hd _ := hf3; clear hf3)
          go_ret
          first | exact ⟨by clear hc hd HF HF3; simp_all, HF.out.trans HF3.out⟩ | exact ⟨by clear hc hd HF; simp_all, HF.out⟩
      · go_enter Tryz.func31, Tryz.ntmps31
        go_wp2_with (go_at_call 54; refine hc.mono ?_; rintro _ w3 ⟨rfl, hf3⟩; have HF3 : Hd _ := hf3; clear hf3)
        go_ret
        first | exact ⟨by clear hc hd HF HF3; simp_all, HF.out.trans HF3.out⟩ | exact ⟨by clear hc hd HF; simp_all, HF.out⟩
    · cases E
      · go_enter Tryz.func31, Tryz.ntmps31
        go_wp2_with (go_at_call 54; refine hc.mono ?_; rintro _ w3 ⟨rfl, hf3⟩; have HF3 : Hd _ := hf3; clear hf3)
        go_ret
        first | exact ⟨by clear hc hd HF HF3; simp_all, HF.out.trans HF3.out⟩ | exact ⟨by clear hc hd HF; simp_all, HF.out⟩
      · go_enter Tryz.func31, Tryz.ntmps31
        go_wp2_with (go_at_call 54; refine hc.mono ?_; rintro _ w3 ⟨rfl, hf3⟩; have HF3 : Hd _ := hf3; clear hf3)
        go_ret
        first | exact ⟨by clear hc hd HF HF3; simp_all, HF.out.trans HF3.out⟩ | exact ⟨by clear hc hd HF; simp_all, HF.out⟩
end Go.Proofs.YtihicdbplmdjiaaGreat
namespace Go.Proofs.YtihicdbplmdjiaaGreat
open Go.RowKit (wrap32 wrap64)
open Go.Maps (Keyed)

/-! ### a history, in plain words -/
/-- A moment, with its reply's lists as they lie. -/
structure Mo where
  c : Int
  beg : Bool
  kd : Int
  ky : Int
  v : ByteArray
  R : RV
def m9 (m : Mo) : List Value := [vI m.c, .bool m.beg, vI m.kd, vI m.ky, .string m.v, .bool m.R.r.ok, .string m.R.r.val, m.R.kv, m.R.vv]
structure St where
  cs : List Cl
  op : List (Int × Nat)
def sameOp (m : Mo) (c : Cl) : Bool := decide (m.kd = c.kd ∧ m.ky = c.ky ∧ m.v.toList = c.v.toList)
def begun (at_ : Nat) (m : Mo) : Cl := ⟨at_, 0, m.kd, m.ky, m.v, rv0⟩
def Cl.ended (c : Cl) (at_ : Nat) (m : Mo) : Cl := { c with e := at_, R := m.R }
/-- One moment more. -/
def stepO (at_ : Nat) (m : Mo) (s : St) : Option St :=
  match s.op.lookup m.c with
  | none => if m.beg && rightOpB m.kd m.ky m.v && isZeroB m.R.r then some ⟨s.cs ++ [begun at_ m], (m.c, s.cs.length) :: s.op⟩ else none
  | some i =>
    match s.cs[i]? with
    | none => none
    | some c => if !m.beg && sameOp m c && rightReplyB m.kd m.R.r then some ⟨s.cs.set i (c.ended at_ m), s.op.filter (fun p => p.1 != m.c)⟩ else none
/-- The first k moments. -/
def runO (h : List Mo) : Nat → Option St
  | 0 => some ⟨[], []⟩
  | k + 1 => (runO h k).bind fun s => match h[k]? with | none => some s | some m => stepO k m s
/-- The calls of a history. -/
def callsX (h : List Mo) : Option (List Cl) :=
  if h.length > 128 then none else (runO h h.length).bind fun s => if s.op = [] then some s.cs else none

theorem runO_none {h : List Mo} {k : Nat} (e : runO h k = none) : ∀ n, runO h (k + n) = none
  | 0 => e
  | n + 1 => by
    show (runO h (k + n)).bind _ = none
    rw [runO_none e n]; rfl
theorem runO_step {h : List Mo} {k : Nat} {s : St} {m : Mo} (e : runO h k = some s) (hm : h[k]? = some m) : runO h (k + 1) = stepO k m s := by
  show (runO h k).bind _ = _
  rw [e]
  show (match h[k]? with | none => some s | some m => stepO k m s) = _
  rw [hm]
/-- What is known of a state. -/
structure StOk (k : Nat) (s : St) : Prop where
  idx : ∀ p ∈ s.op, p.2 < s.cs.length
  nodup : (s.op.map (·.1)).Nodup
  len : s.cs.length ≤ k
  cb : ∀ c ∈ s.cs, c.b < k
  ce : ∀ c ∈ s.cs, c.e < k + 1

theorem lookup_mem {q : Int} {i : Nat} : ∀ {l : List (Int × Nat)}, l.lookup q = some i → (q, i) ∈ l
  | [], h => by simp at h
  | (a, j) :: l, h => by
    rw [List.lookup_cons] at h
    by_cases e : q = a
    · subst e; simp at h; subst h; simp
    · have : (q == a) = false := by simpa using e
      rw [this] at h
      exact List.mem_cons_of_mem _ (lookup_mem h)
theorem lookup_none {q : Int} : ∀ {l : List (Int × Nat)}, l.lookup q = none → q ∉ l.map (·.1)
  | [], _ => by simp
  | (a, j) :: l, h => by
    rw [List.lookup_cons] at h
    by_cases e : q = a
    · subst e; simp at h
    · have : (q == a) = false := by simpa using e
      rw [this] at h
      simp only [List.map_cons, List.mem_cons]
      rintro (h1 | h1)
      · exact e h1
      · exact lookup_none h h1
theorem lookup_filter (c q : Int) : ∀ (l : List (Int × Nat)), (l.filter (fun p => p.1 != c)).lookup q = if q = c then none else l.lookup q
  | [] => by simp
  | (a, j) :: l => by
    have ih := lookup_filter c q l
    by_cases e : a = c
    · subst e
      rw [List.filter_cons_of_neg (by simp), ih, List.lookup_cons]
      by_cases e2 : q = a
      · rw [if_pos e2, if_pos e2]
      · rw [if_neg e2, if_neg e2]
        have : (q == a) = false := by simpa using e2
        rw [this]
    · rw [List.filter_cons_of_pos (by simpa using e), List.lookup_cons, List.lookup_cons, ih]
      by_cases e2 : q = a
      · subst e2
        rw [if_neg e]; simp [e]
      · have : (q == a) = false := by simpa using e2
        rw [this]
theorem filter_len {c : Int} {i : Nat} : ∀ {l : List (Int × Nat)}, (l.map (·.1)).Nodup → l.lookup c = some i → (l.filter (fun p => p.1 != c)).length + 1 = l.length
  | [], _, h => by simp at h
  | (a, j) :: l, hn, h => by
    rw [List.lookup_cons] at h
    simp only [List.map_cons, List.nodup_cons] at hn
    by_cases e : c = a
    · subst e
      rw [List.filter_cons_of_neg (by simp)]
      have : l.filter (fun p => p.1 != c) = l := List.filter_eq_self.2 fun p hp => by
        simp only [bne_iff_ne, ne_eq]
        intro e
        exact hn.1 (e ▸ List.mem_map_of_mem hp)
      rw [this]; rfl
    · have e' : (c == a) = false := by simpa using e
      rw [e'] at h
      rw [List.filter_cons_of_pos (by simpa using fun x => e x.symm), List.length_cons, List.length_cons, filter_len hn.2 h]

theorem stOk_run (h : List Mo) : ∀ k s, runO h k = some s → StOk k s
  | 0, s, e => by
    cases e
    exact ⟨by simp, by simp, by simp, by simp, by simp⟩
  | k + 1, s', e => by
    cases e0 : runO h k with
    | none => rw [runO_none e0 1] at e; cases e
    | some s =>
      have ih := stOk_run h k s e0
      cases hm : h[k]? with
      | none =>
        have : runO h (k + 1) = some s := by
          show (runO h k).bind _ = _
          rw [e0]; show (match h[k]? with | none => some s | some m => stepO k m s) = _; rw [hm]
        rw [this] at e; cases e
        exact ⟨ih.idx, ih.nodup, by have := ih.len; omega, fun c hc => by have := ih.cb c hc; omega, fun c hc => by have := ih.ce c hc; omega⟩
      | some m =>
        rw [runO_step e0 hm] at e
        unfold stepO at e
        split at e
        · next hl =>
          split at e
          · cases e
            refine ⟨fun p hp => ?_, ?_, ?_, fun c hc => ?_, fun c hc => ?_⟩
            · rw [List.length_append]
              rcases List.mem_cons.1 hp with rfl | hp
              · simp
              · have := ih.idx p hp; simp; omega
            · simp only [List.map_cons, List.nodup_cons]
              exact ⟨lookup_none hl, ih.nodup⟩
            · have := ih.len; simp; omega
            · rcases List.mem_append.1 hc with hc | hc
              · have := ih.cb c hc; omega
              · rw [List.mem_singleton.1 hc]; show k < k + 1; omega
            · rcases List.mem_append.1 hc with hc | hc
              · have := ih.ce c hc; omega
              · rw [List.mem_singleton.1 hc]; show 0 < k + 1 + 1; omega
          · cases e
        · next i hl =>
          split at e
          · cases e
          · next c0 hc0 =>
            split at e
            · cases e
              refine ⟨fun p hp => ?_, ih.nodup.sublist ((List.filter_sublist).map _), by simp; have := ih.len; omega, fun c hc => ?_, fun c hc => ?_⟩
              · rw [List.length_set]; exact ih.idx p (List.mem_filter.1 hp).1
              · rcases List.mem_or_eq_of_mem_set hc with hc | rfl
                · have := ih.cb c hc; omega
                · have := ih.cb c0 (List.mem_of_getElem? hc0); show c0.b < k + 1; omega
              · rcases List.mem_or_eq_of_mem_set hc with hc | rfl
                · have := ih.ce c hc; omega
                · show k < k + 1 + 1; omega
            · cases e
end Go.Proofs.YtihicdbplmdjiaaGreat
