import Derived.Test.YtihicdbplmdjiaaQH5
import Derived.Test.YtihicdbplmdjiaaQB1J
import Derived.Test.YtihicdbplmdjiaaQP5J
import Derived.Test.YtihicdbplmdjiaaQC4J
import Derived.Deep.AppendLies
import Derived.Laws.OwnMore
import Derived.Deep.Onto
namespace Go.Proofs.Ytihicdbplmdjiaa
open Go.RowKit (wrap32 wrap64)
set_option linter.unusedVariables false
set_option linter.unusedSimpArgs false

set_option maxHeartbeats 1000000 in
/-- The document's Check. -/
theorem rcheck_any (hv : Value) (h : List Mo) (w : World) (hh : HAt w hv h) (hl : h.length ≤ 4000000000) :
    Calls Try.prog 15 #[hv] w fun e w' => e = .returned (vI (if (callsX h).isSome then 0 else 230)) ∧ Fr (fun _ => False) w w' := by
  have hc := rcalls_any hv h w hh hl
  obtain ⟨E, hE⟩ : ∃ E : Int, E = if (callsX h).isSome then 0 else 230 := ⟨_, rfl⟩
  have HX : Hd (E = if (callsX h).isSome then 0 else 230) := hE
  rw [← hE]
  clear hh hE
  go_enter Try.func15, Try.ntmps15
  go_wp2_with (go_at_call 12; refine hc.mono ?_; rintro _ w3 ⟨lv, ok, rfl, hf3, hE⟩; have HF3 : Hd _ := hf3; have HE : Hd (RcE _ _ _ _ _) := hE; clear hf3 hE; cases ok)
  · go_ret
    refine ⟨?_, HF3.out⟩
    rcases HE.out with ⟨e, -⟩ | ⟨cs, -, e, -⟩
    · rw [show E = _ from HX.out, e]; rfl
    · cases e
  · go_ret
    refine ⟨?_, HF3.out⟩
    rcases HE.out with ⟨-, e⟩ | ⟨cs, e, -⟩
    · cases e
    · rw [show E = _ from HX.out, e]; rfl
end Go.Proofs.Ytihicdbplmdjiaa

namespace Go.Proofs.Ytihicdbplmdjiaa
set_option linter.unusedVariables false
set_option linter.unusedSimpArgs false

/-! ### calls do not hang on where their lists lie -/
def Cl.pl (c : Cl) : Int × Int × Int × Int × ByteArray × Rpl := (c.b, c.e, c.kd, c.ky, c.v, c.R.r)
def Mo.pl (m : Mo) : Int × Bool × Int × Int × ByteArray × Rpl := (m.c, m.beg, m.kd, m.ky, m.v, m.R.r)
def SameS (s s' : Option St) : Prop := (s = none ∧ s' = none) ∨ ∃ a b, s = some a ∧ s' = some b ∧ a.op = b.op ∧ a.cs.map Cl.pl = b.cs.map Cl.pl
theorem Cl.pl_eq {c d : Cl} : c.pl = d.pl ↔ c.b = d.b ∧ c.e = d.e ∧ c.kd = d.kd ∧ c.ky = d.ky ∧ c.v = d.v ∧ c.R.r = d.R.r := by
  unfold Cl.pl; simp only [Prod.mk.injEq]; constructor <;> intro h <;> refine ⟨by omega, by omega, ?_⟩ <;> simp_all
theorem step_same {k : Nat} {m m' : Mo} {a b : St} (hm : m.pl = m'.pl) (ho : a.op = b.op) (hc : a.cs.map Cl.pl = b.cs.map Cl.pl) : SameS (stepO k m a) (stepO k m' b) := by
  unfold Mo.pl at hm
  simp only [Prod.mk.injEq] at hm
  obtain ⟨e1, e2, e3, e4, e5, e6⟩ := hm
  have hlen : a.cs.length = b.cs.length := by simpa using congrArg List.length hc
  unfold stepO
  rw [← ho, ← e1, ← e2, ← e3, ← e4, ← e5, ← e6, hlen]
  cases a.op.lookup m.c with
  | none =>
    simp only
    split
    · refine Or.inr ⟨_, _, rfl, rfl, rfl, ?_⟩
      simp only [List.map_append, hc, List.map_cons, List.map_nil]
      rw [show (begun k m).pl = (begun k m').pl from Cl.pl_eq.2 ⟨rfl, rfl, e3, e4, e5, rfl⟩]
    · exact Or.inl ⟨rfl, rfl⟩
  | some i =>
    simp only
    have hi : (a.cs[i]?).map Cl.pl = (b.cs[i]?).map Cl.pl := by rw [← List.getElem?_map, ← List.getElem?_map, hc]
    cases ea : a.cs[i]? with
    | none =>
      cases eb : b.cs[i]? with
      | none => exact Or.inl ⟨rfl, rfl⟩
      | some d => rw [ea, eb] at hi; cases hi
    | some c =>
      cases eb : b.cs[i]? with
      | none => rw [ea, eb] at hi; cases hi
      | some d =>
        rw [ea, eb] at hi
        have hcd : c.pl = d.pl := by simpa using hi
        obtain ⟨f1, f2, f3, f4, f5, f6⟩ := Cl.pl_eq.1 hcd
        have hs : sameOp m c = sameOp m' d := by unfold sameOp; rw [e3, e4, e5, f3, f4, f5]
        simp only [hs]
        split
        · refine Or.inr ⟨_, _, rfl, rfl, rfl, ?_⟩
          simp only [List.map_set, hc]
          rw [show (c.ended k m).pl = (d.ended k m').pl from Cl.pl_eq.2 ⟨f1, rfl, f3, f4, f5, e6⟩]
        · exact Or.inl ⟨rfl, rfl⟩
theorem run_same {h h' : List Mo} (hh : h.map Mo.pl = h'.map Mo.pl) : ∀ k, SameS (runO h k) (runO h' k)
  | 0 => Or.inr ⟨_, _, rfl, rfl, rfl, rfl⟩
  | k + 1 => by
    have hk : (h[k]?).map Mo.pl = (h'[k]?).map Mo.pl := by rw [← List.getElem?_map, ← List.getElem?_map, hh]
    show SameS ((runO h k).bind _) ((runO h' k).bind _)
    rcases run_same hh k with ⟨e1, e2⟩ | ⟨a, b, e1, e2, ho, hc⟩
    · rw [e1, e2]; exact Or.inl ⟨rfl, rfl⟩
    · rw [e1, e2]
      simp only [Option.bind_some]
      cases em : h[k]? with
      | none =>
        cases em' : h'[k]? with
        | none => exact Or.inr ⟨_, _, rfl, rfl, ho, hc⟩
        | some m' => rw [em, em'] at hk; cases hk
      | some m =>
        cases em' : h'[k]? with
        | none => rw [em, em'] at hk; cases hk
        | some m' =>
          rw [em, em'] at hk
          exact step_same (by simpa using hk) ho hc
theorem calls_same {h h' : List Mo} (hh : h.map Mo.pl = h'.map Mo.pl) : (callsX h = none ∧ callsX h' = none) ∨ ∃ cs cs', callsX h = some cs ∧ callsX h' = some cs' ∧ cs.map Cl.pl = cs'.map Cl.pl := by
  have hl : h.length = h'.length := by simpa using congrArg List.length hh
  unfold callsX
  rw [← hl]
  by_cases hb : h.length > 128
  · rw [if_pos hb, if_pos hb]; exact Or.inl ⟨rfl, rfl⟩
  · rw [if_neg hb, if_neg hb]
    rcases run_same hh h.length with ⟨e1, e2⟩ | ⟨a, b, e1, e2, ho, hc⟩
    · rw [e1, e2]; exact Or.inl ⟨rfl, rfl⟩
    · rw [e1, e2]
      simp only [Option.bind_some, ← ho]
      by_cases h0 : a.op = []
      · rw [if_pos h0, if_pos h0]; exact Or.inr ⟨_, _, rfl, rfl, hc⟩
      · rw [if_neg h0, if_neg h0]; exact Or.inl ⟨rfl, rfl⟩
end Go.Proofs.Ytihicdbplmdjiaa

namespace Go.Proofs.Ytihicdbplmdjiaa
set_option linter.unusedVariables false
set_option linter.unusedSimpArgs false

/-! ### the order does not hang on where lists lie -/
theorem prec_same {c c' d d' : Cl} (h1 : c.pl = c'.pl) (h2 : d.pl = d'.pl) : precB c d = precB c' d' := by
  obtain ⟨f1, f2, f3, f4, f5, f6⟩ := Cl.pl_eq.1 h1
  obtain ⟨g1, g2, g3, g4, g5, g6⟩ := Cl.pl_eq.1 h2
  unfold precB makesB missesB findsB
  rw [f2, f3, f4, f6, g1, g3, g4, g6]
theorem pl_get {cs cs' : List Cl} (h : cs.map Cl.pl = cs'.map Cl.pl) (i : Nat) : (cs[i]?).map Cl.pl = (cs'[i]?).map Cl.pl := by rw [← List.getElem?_map, ← List.getElem?_map, h]
theorem ahead_same {cs cs' : List Cl} (h : cs.map Cl.pl = cs'.map Cl.pl) (i n : Nat) : aheadTo cs i n = aheadTo cs' i n := by
  unfold aheadTo
  refine List.filter_congr fun j _ => ?_
  have hi := pl_get h i
  have hj := pl_get h j
  cases ei : cs[i]? <;> cases ei' : cs'[i]? <;> cases ej : cs[j]? <;> cases ej' : cs'[j]? <;> rw [ei, ei'] at hi <;> rw [ej, ej'] at hj <;> simp at hi hj ⊢
  rw [prec_same hj hi]
theorem waits_same {cs cs' : List Cl} (h : cs.map Cl.pl = cs'.map Cl.pl) : waitsX cs = waitsX cs' := by
  have hl : cs.length = cs'.length := by simpa using congrArg List.length h
  unfold waitsX
  rw [hl]
  exact List.map_congr_left fun i _ => by rw [ahead_same h]
def SameF (f f' : Mk) : Prop := ∀ q, (f q).map Cl.pl = (f' q).map Cl.pl
theorem made_same : ∀ {cs cs' : List Cl} {f f' : Mk}, cs.map Cl.pl = cs'.map Cl.pl → SameF f f' → SameF (cs.foldl (fun f c => if makesB c then (fun q => if q = c.ky then some c else f q) else f) f) (cs'.foldl (fun f c => if makesB c then (fun q => if q = c.ky then some c else f q) else f) f')
  | [], [], _, _, _, hf => hf
  | [], _ :: _, _, _, h, _ => by cases h
  | _ :: _, [], _, _, h, _ => by cases h
  | c :: cs, c' :: cs', f, f', h, hf => by
    rw [List.map_cons, List.map_cons, List.cons.injEq] at h
    rw [List.foldl_cons, List.foldl_cons]
    refine made_same h.2 ?_
    obtain ⟨f1, f2, f3, f4, f5, f6⟩ := Cl.pl_eq.1 h.1
    have hm : makesB c = makesB c' := by unfold makesB; rw [f3, f6]
    rw [hm]
    split
    · intro q
      rw [f4]
      by_cases hq : q = c'.ky
      · simp [hq, h.1]
      · simp only [if_neg hq]; exact hf q
    · exact hf
theorem has_same {f f' : Mk} (hf : SameF f f') (k : Int) (v : ByteArray) : hasB f k v = hasB f' k v := by
  have := hf k
  unfold hasB
  cases e : f k <;> cases e' : f' k <;> rw [e, e'] at this <;> simp at this ⊢
  rw [(Cl.pl_eq.1 this).2.2.2.2.1]
theorem tell_same {f f' : Mk} (hf : SameF f f') {c c' : Cl} (h : c.pl = c'.pl) : canTellB f c = canTellB f' c' := by
  obtain ⟨f1, f2, f3, f4, f5, f6⟩ := Cl.pl_eq.1 h
  unfold canTellB
  have h1 : (f c'.ky).isSome = (f' c'.ky).isSome := by
    have := hf c'.ky
    cases e : f c'.ky <;> cases e' : f' c'.ky <;> rw [e, e'] at this <;> simp at this ⊢
  rw [f3, f4, f6, h1, has_same hf]
  simp only [has_same hf]
theorem possible_same {f f' : Mk} (hf : SameF f f') : ∀ {cs cs' : List Cl}, cs.map Cl.pl = cs'.map Cl.pl → possibleB f cs = possibleB f' cs'
  | [], [], _ => rfl
  | [], _ :: _, h => by cases h
  | _ :: _, [], h => by cases h
  | c :: cs, c' :: cs', h => by
    rw [List.map_cons, List.map_cons, List.cons.injEq] at h
    have ih := possible_same hf h.2
    unfold possibleB at ih ⊢
    rw [List.all_cons, List.all_cons, tell_same hf h.1, ih]
theorem possibleX_same {cs cs' : List Cl} (h : cs.map Cl.pl = cs'.map Cl.pl) : possibleB (madeX cs) cs = possibleB (madeX cs') cs' := possible_same (made_same h (fun _ => rfl)) h
end Go.Proofs.Ytihicdbplmdjiaa

namespace Go.Proofs.Ytihicdbplmdjiaa
open Go.RowKit (wrap32 wrap64)
set_option linter.unusedVariables false
set_option linter.unusedSimpArgs false

/-- Cells that lie one behind the other below B. -/
def RowB (w : World) (B : Nat) (v : Value) (xs : List Value) : Prop :=
  ∃ ad cap, v = .slice ad xs.length cap ∧ (xs ≠ [] → ∃ g o, ad = some ⟨g, o, none⟩ ∧ g < B ∧ ∀ i (h : i < xs.length), w.cell? ⟨g, o + i, none⟩ = some xs[i])
theorem RowB.fr {w w' : World} {B : Nat} {v : Value} {xs : List Value} (h : RowB w B v xs) {S : Nat → Prop} (f : Fr S w w') (hB : B ≤ w.heap.size) (hS : ∀ j, v.ownBlock = some j → ¬ S j) : RowB w' B v xs := by
  obtain ⟨ad, cap, e, hx⟩ := h
  refine ⟨ad, cap, e, fun hne => ?_⟩
  obtain ⟨g, o, ea, hg, hcs⟩ := hx hne
  exact ⟨g, o, ea, hg, fun i hi => (f.cell (by omega) (hS g (by rw [e, ea]; rfl))).trans (hcs i hi)⟩
theorem RowB.mono {w : World} {B B' : Nat} {v : Value} {xs : List Value} (h : RowB w B v xs) (hB : B ≤ B') : RowB w B' v xs := by
  obtain ⟨ad, cap, e, hx⟩ := h
  refine ⟨ad, cap, e, fun hne => ?_⟩
  obtain ⟨g, o, ea, hg, hcs⟩ := hx hne
  exact ⟨g, o, ea, by omega, hcs⟩
theorem RowB.nil (w : World) (B : Nat) : RowB w B (.slice none 0 0) [] := ⟨none, 0, rfl, fun h => absurd rfl h⟩
theorem RowB.own {w : World} {B e : Nat} {v : Value} {n : Nat} {xs : List Value} (h : w.ownsRow B e 1 v n xs) : RowB w w.heap.size v xs := by
  have hl := h.1
  rcases h.2 with ⟨h2, h3⟩ | ⟨g, cap, cur, e', h3, h4, h5, h6, h7, h8⟩
  · subst h3
    have : xs = [] := List.eq_nil_of_length_eq_zero (by simpa using hl)
    subst this; rw [h2]; exact RowB.nil _ _
  · refine ⟨_, cap, by rw [e']; congr 1; omega, fun _ => ⟨g, 0, rfl, heap_lt h4, fun i hi => ?_⟩⟩
    rw [cell_of h4, Nat.zero_add]
    have : cur[i]? = xs[i]? := by rw [← h8, List.getElem?_take, if_pos (by omega), Array.getElem?_toList]
    rw [this, List.getElem?_eq_getElem hi]

def kCells (L : List Kv) : List Value := L.map (fun e => vI e.1)
def vCells (L : List Kv) : List Value := L.map (fun e => .string e.2)
theorem kLen (L : List Kv) : (kCells L).length = L.length := by simp [kCells]
theorem vLen (L : List Kv) : (vCells L).length = L.length := by simp [vCells]

set_option maxRecDepth 100000 in
set_option maxHeartbeats 2000000 in
theorem eqInts_same (v1 v2 : Value) (zs : List Int) (B1 B2 : Nat) (w : World) (h1 : RowB w B1 v1 (zs.map vI)) (h2 : RowB w B2 v2 (zs.map vI)) (hB1 : B1 ≤ w.heap.size) (hB2 : B2 ≤ w.heap.size) (hl : zs.length ≤ 100000000000000) :
    Calls Try.prog 14 #[v1, v2] w fun e w' => e = .returned (.bool true) ∧ Fr (fun _ => False) w w' := by
  obtain ⟨a1, c1, rfl, h1⟩ := h1
  obtain ⟨a2, c2, rfl, h2⟩ := h2
  simp only [List.length_map] at h1 h2 ⊢
  obtain ⟨n, hn⟩ : ∃ n, n = zs.length := ⟨_, rfl⟩
  have HN : Hd (n = zs.length) := hn
  have HB1 : Hd (B1 ≤ w.heap.size) := hB1
  have HB2 : Hd (B2 ≤ w.heap.size) := hB2
  have H1 : Hd (0 < zs.length → ∃ k o, a1 = some ⟨k, o, none⟩ ∧ k < B1 ∧ ∀ j (h : j < zs.length), w.cell? ⟨k, o + j, none⟩ = some (vI zs[j])) := fun hz => by
    obtain ⟨k, o, e1, e2, e3⟩ := h1 (by intro e; rw [List.map_eq_nil_iff] at e; subst e; simp at hz)
    exact ⟨k, o, e1, e2, fun j hj => by rw [e3 j hj]; simp⟩
  have H2 : Hd (0 < zs.length → ∃ k o, a2 = some ⟨k, o, none⟩ ∧ k < B2 ∧ ∀ j (h : j < zs.length), w.cell? ⟨k, o + j, none⟩ = some (vI zs[j])) := fun hz => by
    obtain ⟨k, o, e1, e2, e3⟩ := h2 (by intro e; rw [List.map_eq_nil_iff] at e; subst e; simp at hz)
    exact ⟨k, o, e1, e2, fun j hj => by rw [e3 j hj]; simp⟩
  rw [← hn] at hl ⊢
  clear h1 h2 hn hB1 hB2
  go_enter Try.func14, Try.ntmps14
  go_wp2_with fail
  go_loopw [5] (fun v wr => ∃ i : Nat, v = .int .i64 i ∧ i ≤ n ∧ Hd (Fr (fun _ => False) w wr)) (fun v _ => match v with | .int _ q => n - q.toNat | _ => 0)
  case atStart => exact ⟨0, rfl, by omega, Fr.refl _ _⟩
  case round =>
    obtain ⟨i, rfl, hi, HF⟩ := hrel
    by_cases hlt : i < n
    · have hlt' : (i : Int) < n := by omega
      have h0 : (0 : Int) ≤ i := by omega
      have hzl : i < zs.length := by have := HN.out; omega
      obtain ⟨k1, o1, rfl, hk1, hc1⟩ := H1.out (by omega)
      obtain ⟨k2, o2, rfl, hk2, hc2⟩ := H2.out (by omega)
      have d1 : wr.cell? ⟨k1, o1 + i, none⟩ = some (vI zs[i]) := (HF.out.cell (Nat.lt_of_lt_of_le hk1 HB1.out) (fun h => h)).trans (hc1 i hzl)
      have d2 : wr.cell? ⟨k2, o2 + i, none⟩ = some (vI zs[i]) := (HF.out.cell (Nat.lt_of_lt_of_le hk2 HB2.out) (fun h => h)).trans (hc2 i hzl)
      obtain ⟨x, hx⟩ : ∃ x, x = zs[i] := ⟨_, rfl⟩
      rw [← hx] at d1 d2
      clear hzl hc1 hc2 hx H1 H2
      go_wp2_with fail
      go_region
      all_goals go_wp2_with fail
      all_goals exact ⟨⟨i + 1, by simp, by omega, HF.out.drew⟩, by simp; omega⟩
    · have hlt' : decide (i < n) = false := by simp; omega
      clear hi
      go_wp2_with fail
      go_ret
      exact ⟨rfl, HF.out⟩

set_option maxRecDepth 100000 in
set_option maxHeartbeats 2000000 in
theorem eqStrings_same (v1 v2 : Value) (zs : List ByteArray) (B1 B2 : Nat) (w : World) (h1 : RowB w B1 v1 (zs.map Value.string)) (h2 : RowB w B2 v2 (zs.map Value.string)) (hB1 : B1 ≤ w.heap.size) (hB2 : B2 ≤ w.heap.size) (hl : zs.length ≤ 100000000000000) :
    Calls Try.prog 49 #[v1, v2] w fun e w' => e = .returned (.bool true) ∧ Fr (fun _ => False) w w' := by
  obtain ⟨a1, c1, rfl, h1⟩ := h1
  obtain ⟨a2, c2, rfl, h2⟩ := h2
  simp only [List.length_map] at h1 h2 ⊢
  obtain ⟨n, hn⟩ : ∃ n, n = zs.length := ⟨_, rfl⟩
  have HN : Hd (n = zs.length) := hn
  have HB1 : Hd (B1 ≤ w.heap.size) := hB1
  have HB2 : Hd (B2 ≤ w.heap.size) := hB2
  have H1 : Hd (0 < zs.length → ∃ k o, a1 = some ⟨k, o, none⟩ ∧ k < B1 ∧ ∀ j (h : j < zs.length), w.cell? ⟨k, o + j, none⟩ = some (.string zs[j])) := fun hz => by
    obtain ⟨k, o, e1, e2, e3⟩ := h1 (by intro e; rw [List.map_eq_nil_iff] at e; subst e; simp at hz)
    exact ⟨k, o, e1, e2, fun j hj => by rw [e3 j hj]; simp⟩
  have H2 : Hd (0 < zs.length → ∃ k o, a2 = some ⟨k, o, none⟩ ∧ k < B2 ∧ ∀ j (h : j < zs.length), w.cell? ⟨k, o + j, none⟩ = some (.string zs[j])) := fun hz => by
    obtain ⟨k, o, e1, e2, e3⟩ := h2 (by intro e; rw [List.map_eq_nil_iff] at e; subst e; simp at hz)
    exact ⟨k, o, e1, e2, fun j hj => by rw [e3 j hj]; simp⟩
  rw [← hn] at hl ⊢
  clear h1 h2 hn hB1 hB2
  go_enter Try.func49, Try.ntmps49
  go_wp2_with fail
  go_loopw [5] (fun v wr => ∃ i : Nat, v = .int .i64 i ∧ i ≤ n ∧ Hd (Fr (fun _ => False) w wr)) (fun v _ => match v with | .int _ q => n - q.toNat | _ => 0)
  case atStart => exact ⟨0, rfl, by omega, Fr.refl _ _⟩
  case round =>
    obtain ⟨i, rfl, hi, HF⟩ := hrel
    by_cases hlt : i < n
    · have hlt' : (i : Int) < n := by omega
      have h0 : (0 : Int) ≤ i := by omega
      have hzl : i < zs.length := by have := HN.out; omega
      obtain ⟨k1, o1, rfl, hk1, hc1⟩ := H1.out (by omega)
      obtain ⟨k2, o2, rfl, hk2, hc2⟩ := H2.out (by omega)
      have d1 : wr.cell? ⟨k1, o1 + i, none⟩ = some (.string zs[i]) := (HF.out.cell (Nat.lt_of_lt_of_le hk1 HB1.out) (fun h => h)).trans (hc1 i hzl)
      have d2 : wr.cell? ⟨k2, o2 + i, none⟩ = some (.string zs[i]) := (HF.out.cell (Nat.lt_of_lt_of_le hk2 HB2.out) (fun h => h)).trans (hc2 i hzl)
      obtain ⟨x, hx⟩ : ∃ x, x = zs[i] := ⟨_, rfl⟩
      rw [← hx] at d1 d2
      clear hzl hc1 hc2 hx H1 H2
      go_wp2_with fail
      go_region
      all_goals go_wp2_with fail
      all_goals exact ⟨⟨i + 1, by simp, by omega, HF.out.drew⟩, by simp; omega⟩
    · have hlt' : decide (i < n) = false := by simp; omega
      clear hi
      go_wp2_with fail
      go_ret
      exact ⟨rfl, HF.out⟩

/-! ### copies -/
theorem info9 : (Try.prog.info? 9).map (fun i => (i.zero, i.size, i.bytes)) = some (some (.string ⟨#[]⟩), 1, 16) := by kernel_rfl

theorem adr (b j : Nat) : (⟨b, 0, none⟩ : Addr).add j = ⟨b, j, none⟩ := by unfold Addr.add; split <;> simp_all
theorem under27 : Try.prog.underlying 25 = some (.slice 3) := by kernel_rfl
theorem under28 : Try.prog.underlying 26 = some (.slice 9) := by kernel_rfl
theorem one_new (w : World) (x : Value) (e : TypeId) : ∀ j u, [x][j]? = some u → (w.alloc (.cells #[x] e)).cell? ((⟨w.heap.size, 0, none⟩ : Addr).add j) = some u := fun j u hj => by
  cases j with
  | zero => rw [adr, cell_of (heap_alloc_last w _)]; simpa using hj
  | succ j => simp at hj

set_option maxRecDepth 100000 in
set_option maxHeartbeats 2000000 in
theorem copyInts_any (v1 : Value) (zs : List Int) (B1 : Nat) (w : World) (h1 : RowB w B1 v1 (zs.map vI)) (hB1 : B1 ≤ w.heap.size) (hl : zs.length ≤ 10000000000000) :
    Calls Try.prog 31 #[v1] w fun e w' => ∃ v', e = .returned v' ∧ w'.ownsRow w.heap.size 3 1 v' zs.length (zs.map vI) ∧ Fr (fun _ => False) w w' := by
  obtain ⟨i3, hi3, hz3, hs3, hb3⟩ := info_parts info3
  obtain ⟨a1, c1, rfl, h1⟩ := h1
  simp only [List.length_map] at h1 ⊢
  obtain ⟨n, hn⟩ : ∃ n, n = zs.length := ⟨_, rfl⟩
  have HN : Hd (n = zs.length) := hn
  have HB1 : Hd (B1 ≤ w.heap.size) := hB1
  have H1 : Hd (0 < zs.length → ∃ k o, a1 = some ⟨k, o, none⟩ ∧ k < B1 ∧ ∀ j (h : j < zs.length), w.cell? ⟨k, o + j, none⟩ = some (vI zs[j])) := fun hz => by
    obtain ⟨k, o, e1, e2, e3⟩ := h1 (by intro e; rw [List.map_eq_nil_iff] at e; subst e; simp at hz)
    exact ⟨k, o, e1, e2, fun j hj => by rw [e3 j hj]; simp⟩
  rw [← hn] at hl ⊢
  clear h1 hn hB1
  go_enter Try.func31, Try.ntmps31
  go_wp2_with fail
  go_loopw [3, 4] (fun v3 v wr => ∃ i : Nat, v = .int .i64 i ∧ i ≤ n ∧ Hd (wr.ownsRow w.heap.size 3 1 v3 i ((zs.take i).map vI) ∧ Fr (fun _ => False) w wr)) (fun _ v _ => match v with | .int _ q => n - q.toNat | _ => 0)
  case atStart => exact ⟨0, rfl, by omega, World.ownsRow_nil _ _ _ _, Fr.refl _ _⟩
  case round =>
    obtain ⟨i, rfl, hi, HF⟩ := hrel
    by_cases hlt : i < n
    · have hlt' : (i : Int) < n := by omega
      have h0 : (0 : Int) ≤ i := by omega
      have hzl : i < zs.length := by have := HN.out; omega
      obtain ⟨k1, o1, rfl, hk1, hc1⟩ := H1.out (by omega)
      have d1 : wr.cell? ⟨k1, o1 + i, none⟩ = some (vI zs[i]) := (HF.out.2.cell (Nat.lt_of_lt_of_le hk1 HB1.out) (fun h => h)).trans (hc1 i hzl)
      have et : (zs.take (i + 1)).map vI = (zs.take i).map vI ++ [vI zs[i]] := by rw [List.take_add_one, List.getElem?_eq_getElem hzl, List.map_append]; rfl
      obtain ⟨x, hx⟩ : ∃ x, x = zs[i] := ⟨_, rfl⟩
      rw [← hx] at d1 et
      obtain ⟨g, cap, w2, hr, hown, hgr, hw, -⟩ := run_append_lies (P := Try.prog) (w := wr.alloc (.cells #[vI x] 3)) 25 25 w.heap.size 3 i3 (vI 0) 1 8 under27 hi3 hz3 hs3 hb3 rfl (by omega) u3 i _ (World.ownsRow.alloc HF.out.1 _) ⟨wr.heap.size, 0, none⟩ 1 1 [vI x] rfl (one_new wr (vI x) 3) (by intro u hu; rw [List.mem_singleton.1 hu]; rfl) (by omega) (by unfold maxLen; omega) (by omega) (by have := HF.out.2.size; simp; omega) _ rfl
      rw [← et] at hown
      have HA : Hd ((Builtin.append_ #[25, 25] 25 #[u3, .slice (some ⟨wr.heap.size, 0, none⟩) 1 1]).run Try.prog (wr.alloc (.cells #[vI x] 3)) = .ok (.slice (some ⟨g, 0, none⟩) (i + 1) cap) w2) := hr
      have HE : Hd (w2.ownsRow w.heap.size 3 1 (.slice (some ⟨g, 0, none⟩) (i + 1) cap) (i + 1) ((zs.take (i + 1)).map vI) ∧ Fr (fun _ => False) w w2) := ⟨hown, (HF.out.2.alloc _).under (grown_fr hgr) (fun j hj => (World.ownsRow.lt HF.out.1 j hj).1)⟩
      clear hzl hc1 hx H1 hr hown hgr hw et HF
      go_wp2_with (at_builtin; refine wpList_append_run rfl (.tmp 11) (.tmp 16) 25 rfl _ _ _ rfl rfl HA.out ?_)
      exact ⟨⟨i + 1, by simp, by omega, HE.out⟩, by simp; omega⟩
    · have hlt' : decide (i < n) = false := by simp; omega
      have ei : i = n := by omega
      subst ei
      have HE : Hd (wr.ownsRow w.heap.size 3 1 u3 i (zs.map vI) ∧ Fr (fun _ => False) w wr) := by
        have := HF.out
        rw [List.take_of_length_le (by have := HN.out; omega)] at this
        exact this
      clear hi HF
      go_wp2_with fail
      go_ret
      exact ⟨_, rfl, HE.out.1, HE.out.2⟩
set_option maxRecDepth 100000 in
set_option maxHeartbeats 2000000 in
theorem copyStrings_any (v1 : Value) (zs : List ByteArray) (B1 : Nat) (w : World) (h1 : RowB w B1 v1 (zs.map Value.string)) (hB1 : B1 ≤ w.heap.size) (hl : zs.length ≤ 5000000000000) :
    Calls Try.prog 34 #[v1] w fun e w' => ∃ v', e = .returned v' ∧ w'.ownsRow w.heap.size 9 1 v' zs.length (zs.map Value.string) ∧ Fr (fun _ => False) w w' := by
  obtain ⟨i3, hi3, hz3, hs3, hb3⟩ := info_parts info9
  obtain ⟨a1, c1, rfl, h1⟩ := h1
  simp only [List.length_map] at h1 ⊢
  obtain ⟨n, hn⟩ : ∃ n, n = zs.length := ⟨_, rfl⟩
  have HN : Hd (n = zs.length) := hn
  have HB1 : Hd (B1 ≤ w.heap.size) := hB1
  have H1 : Hd (0 < zs.length → ∃ k o, a1 = some ⟨k, o, none⟩ ∧ k < B1 ∧ ∀ j (h : j < zs.length), w.cell? ⟨k, o + j, none⟩ = some (.string zs[j])) := fun hz => by
    obtain ⟨k, o, e1, e2, e3⟩ := h1 (by intro e; rw [List.map_eq_nil_iff] at e; subst e; simp at hz)
    exact ⟨k, o, e1, e2, fun j hj => by rw [e3 j hj]; simp⟩
  rw [← hn] at hl ⊢
  clear h1 hn hB1
  go_enter Try.func34, Try.ntmps34
  go_wp2_with fail
  go_loopw [3, 4] (fun v3 v wr => ∃ i : Nat, v = .int .i64 i ∧ i ≤ n ∧ Hd (wr.ownsRow w.heap.size 9 1 v3 i ((zs.take i).map Value.string) ∧ Fr (fun _ => False) w wr)) (fun _ v _ => match v with | .int _ q => n - q.toNat | _ => 0)
  case atStart => exact ⟨0, rfl, by omega, World.ownsRow_nil _ _ _ _, Fr.refl _ _⟩
  case round =>
    obtain ⟨i, rfl, hi, HF⟩ := hrel
    by_cases hlt : i < n
    · have hlt' : (i : Int) < n := by omega
      have h0 : (0 : Int) ≤ i := by omega
      have hzl : i < zs.length := by have := HN.out; omega
      obtain ⟨k1, o1, rfl, hk1, hc1⟩ := H1.out (by omega)
      have d1 : wr.cell? ⟨k1, o1 + i, none⟩ = some (.string zs[i]) := (HF.out.2.cell (Nat.lt_of_lt_of_le hk1 HB1.out) (fun h => h)).trans (hc1 i hzl)
      have et : (zs.take (i + 1)).map Value.string = (zs.take i).map Value.string ++ [.string zs[i]] := by rw [List.take_add_one, List.getElem?_eq_getElem hzl, List.map_append]; rfl
      obtain ⟨x, hx⟩ : ∃ x, x = zs[i] := ⟨_, rfl⟩
      rw [← hx] at d1 et
      obtain ⟨g, cap, w2, hr, hown, hgr, hw, -⟩ := run_append_lies (P := Try.prog) (w := wr.alloc (.cells #[.string x] 9)) 26 26 w.heap.size 9 i3 (.string ⟨#[]⟩) 1 16 under28 hi3 hz3 hs3 hb3 rfl (by omega) u3 i _ (World.ownsRow.alloc HF.out.1 _) ⟨wr.heap.size, 0, none⟩ 1 1 [.string x] rfl (one_new wr (.string x) 9) (by intro u hu; rw [List.mem_singleton.1 hu]; rfl) (by omega) (by unfold maxLen; omega) (by omega) (by have := HF.out.2.size; simp; omega) _ rfl
      rw [← et] at hown
      have HA : Hd ((Builtin.append_ #[26, 26] 26 #[u3, .slice (some ⟨wr.heap.size, 0, none⟩) 1 1]).run Try.prog (wr.alloc (.cells #[.string x] 9)) = .ok (.slice (some ⟨g, 0, none⟩) (i + 1) cap) w2) := hr
      have HE : Hd (w2.ownsRow w.heap.size 9 1 (.slice (some ⟨g, 0, none⟩) (i + 1) cap) (i + 1) ((zs.take (i + 1)).map Value.string) ∧ Fr (fun _ => False) w w2) := ⟨hown, (HF.out.2.alloc _).under (grown_fr hgr) (fun j hj => (World.ownsRow.lt HF.out.1 j hj).1)⟩
      clear hzl hc1 hx H1 hr hown hgr hw et HF
      go_wp2_with (at_builtin; refine wpList_append_run rfl (.tmp 11) (.tmp 16) 26 rfl _ _ _ rfl rfl HA.out ?_)
      exact ⟨⟨i + 1, by simp, by omega, HE.out⟩, by simp; omega⟩
    · have hlt' : decide (i < n) = false := by simp; omega
      have ei : i = n := by omega
      subst ei
      have HE : Hd (wr.ownsRow w.heap.size 9 1 u3 i (zs.map Value.string) ∧ Fr (fun _ => False) w wr) := by
        have := HF.out
        rw [List.take_of_length_le (by have := HN.out; omega)] at this
        exact this
      clear hi HF
      go_wp2_with fail
      go_ret
      exact ⟨_, rfl, HE.out.1, HE.out.2⟩
end Go.Proofs.Ytihicdbplmdjiaa
