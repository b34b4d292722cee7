import Derived.Test.YtihicdbplmdjiaaQC4J
import Derived.Test.YtihicdbplmdjiaaQH3J
import Derived.Test.YtihicdbplmdjiaaQEaJ
import Derived.Test.YtihicdbplmdjiaaQP8J
import Derived.Test.YtihicdbplmdjiaaQH8
namespace Go.Proofs.Ytihicdbplmdjiaa
open Go.RowKit (wrap32 wrap64)
set_option linter.unusedVariables false
set_option linter.unusedSimpArgs false

/-! ### n Lookups at one time -/
abbrev noB : ByteArray := ⟨#[]⟩
theorem em0 : emB noB = true := by
  unfold emB ByteArray.toList
  rw [ByteArray.toList.loop]
  have : noB.size = 0 := rfl
  simp [this]
def mo (i : Nat) (b : Bool) : Mo := ⟨i, b, 2, 3, noB, rv0⟩
def manyH (n : Nat) : List Mo := (List.range n).map (fun i => mo i true) ++ (List.range n).map (fun i => mo i false)
def fin (n i : Nat) : Cl := ⟨i, n + i, 2, 3, noB, rv0⟩
def bgn (i : Nat) : Cl := ⟨i, 0, 2, 3, noB, rv0⟩
theorem zero0 : isZeroB rv0.r = true := by unfold isZeroB rv0 noKeysB; simp [em0]
theorem right0 : rightOpB 2 3 noB = true := by unfold rightOpB; simp [em0]
theorem reply0 : rightReplyB 2 rv0.r = true := by unfold rightReplyB noKeysB rv0; simp [em0]
theorem step_b (at_ i : Nat) (s : St) (h : s.op.lookup (i : Int) = none) : stepO at_ (mo i true) s = some ⟨s.cs ++ [bgn at_], ((i : Int), s.cs.length) :: s.op⟩ := by
  unfold stepO
  have : (mo i true).c = (i : Int) := rfl
  rw [this, h]
  have : ((mo i true).beg && rightOpB (mo i true).kd (mo i true).ky (mo i true).v && isZeroB (mo i true).R.r) = true := by
    show (true && rightOpB 2 3 noB && isZeroB rv0.r) = true
    rw [right0, zero0]; rfl
  simp only [this, if_true]
  rfl
theorem step_e (at_ i q b : Nat) (s : St) (h : s.op.lookup (i : Int) = some q) (hc : s.cs[q]? = some (bgn b)) : stepO at_ (mo i false) s = some ⟨s.cs.set q ⟨b, at_, 2, 3, noB, rv0⟩, s.op.filter (fun p => p.1 != (i : Int))⟩ := by
  unfold stepO
  have : (mo i false).c = (i : Int) := rfl
  rw [this, h]
  simp only [hc]
  have : (!(mo i false).beg && sameOp (mo i false) (bgn b) && rightReplyB (mo i false).kd (mo i false).R.r) = true := by
    show (!false && sameOp (mo i false) (bgn b) && rightReplyB 2 rv0.r) = true
    rw [reply0]
    simp [sameOp, mo, bgn]
  rw [if_pos this]
  rfl
theorem many_len (n : Nat) : (manyH n).length = n + n := by simp [manyH]
theorem many_b (n k : Nat) (h : k < n) : (manyH n)[k]? = some (mo k true) := by
  unfold manyH
  rw [List.getElem?_append_left (by simpa using h), List.getElem?_map, List.getElem?_range h]; rfl
theorem many_e (n j : Nat) (h : j < n) : (manyH n)[n + j]? = some (mo j false) := by
  unfold manyH
  rw [List.getElem?_append_right (by simp), List.length_map, List.length_range, show n + j - n = j by omega, List.getElem?_map, List.getElem?_range h]; rfl
theorem phase1 (n : Nat) : ∀ k, k ≤ n → ∃ s, runO (manyH n) k = some s ∧ s.cs = (List.range k).map bgn ∧ ∀ q : Int, s.op.lookup q = if 0 ≤ q ∧ q < k then some q.toNat else none
  | 0, _ => ⟨⟨[], []⟩, rfl, rfl, fun q => by rw [if_neg (by omega)]; rfl⟩
  | k + 1, h => by
    obtain ⟨s, h1, h2, h3⟩ := phase1 n k (by omega)
    have hst := runO_step h1 (many_b n k (by omega))
    rw [step_b k k s (by rw [h3, if_neg (by omega)])] at hst
    refine ⟨_, hst, by rw [h2, List.range_succ, List.map_append]; rfl, fun q => ?_⟩
    show (((k : Int), s.cs.length) :: s.op).lookup q = _
    rw [List.lookup_cons]
    by_cases e : q = (k : Int)
    · subst e
      rw [if_pos (by omega), h2]
      simp
    · rw [show (q == (k : Int)) = false by simpa using e, h3]
      by_cases h4 : 0 ≤ q ∧ q < k
      · rw [if_pos h4, if_pos (by omega)]
      · rw [if_neg h4, if_neg (by omega)]
theorem phase2 (n : Nat) : ∀ j, j ≤ n → ∃ s, runO (manyH n) (n + j) = some s ∧ s.cs = (List.range n).map (fun i => if i < j then fin n i else bgn i) ∧ ∀ q : Int, s.op.lookup q = if (j : Int) ≤ q ∧ q < n then some q.toNat else none
  | 0, _ => by
    obtain ⟨s, h1, h2, h3⟩ := phase1 n n (Nat.le_refl _)
    exact ⟨s, h1, by rw [h2]; congr 1, fun q => by rw [h3]; rfl⟩
  | j + 1, h => by
    obtain ⟨s, h1, h2, h3⟩ := phase2 n j (by omega)
    have hst := runO_step h1 (many_e n j (by omega))
    have hq : s.op.lookup (j : Int) = some j := by rw [h3, if_pos (by omega)]; rfl
    have hcj : s.cs[j]? = some (bgn j) := by
      rw [h2, List.getElem?_map, List.getElem?_range (by omega)]
      simp
    rw [step_e (n + j) j j j s hq hcj] at hst
    refine ⟨_, hst, ?_, fun q => ?_⟩
    · show s.cs.set j _ = _
      apply List.ext_getElem?
      intro x
      rw [List.getElem?_set, h2]
      by_cases e : j = x
      · subst e
        rw [if_pos rfl, if_pos (by simp; omega), List.getElem?_map, List.getElem?_range (by omega)]
        simp [fin]
      · rw [if_neg e, List.getElem?_map, List.getElem?_map]
        by_cases hx : x < n
        · rw [List.getElem?_range hx]
          show some _ = some _
          congr 1
          show (if x < j then fin n x else bgn x) = (if x < j + 1 then fin n x else bgn x)
          by_cases hxj : x < j
          · rw [if_pos hxj, if_pos (by omega)]
          · rw [if_neg hxj, if_neg (by omega)]
        · rw [List.getElem?_eq_none (by simpa using hx)]; rfl
    · show (s.op.filter (fun p => p.1 != (j : Int))).lookup q = _
      rw [lookup_filter, h3]
      by_cases e : q = (j : Int)
      · rw [if_pos e, if_neg (by omega)]
      · rw [if_neg e]
        by_cases h4 : (j : Int) ≤ q ∧ q < n
        · rw [if_pos h4, if_pos (by omega)]
        · rw [if_neg h4, if_neg (by omega)]
theorem many_calls (n : Nat) : callsX (manyH n) = if n ≤ 64 then some ((List.range n).map (fin n)) else none := by
  unfold callsX
  rw [many_len]
  by_cases h : n ≤ 64
  · rw [if_pos h, if_neg (by omega)]
    obtain ⟨s, h1, h2, h3⟩ := phase2 n n (Nat.le_refl _)
    rw [h1]
    have hop : s.op = [] := by
      cases hs : s.op with
      | nil => rfl
      | cons a l =>
        have := h3 a.1
        rw [hs, if_neg (by omega), List.lookup_cons] at this
        simp at this
    simp only [Option.bind_some]
    rw [if_pos hop, h2]
    congr 1
    apply List.map_congr_left
    intro i hi
    rw [if_pos (List.mem_range.1 hi)]
  · rw [if_neg h, if_pos (by omega)]
/-- Nothing must stand ahead of anything. -/
theorem many_ahead (n i k : Nat) (hk : k ≤ n) (hi : i < n) : aheadTo ((List.range n).map (fin n)) i k = [] := by
  unfold aheadTo
  rw [List.filter_eq_nil_iff]
  intro j hj
  have hj := List.mem_range.1 hj
  rw [List.getElem?_map, List.getElem?_map, List.getElem?_range (by omega), List.getElem?_range hi]
  simp [precB, makesB, fin]
  omega
theorem many_waits (n : Nat) : waitsX ((List.range n).map (fin n)) = List.replicate n 0 := by
  unfold waitsX
  apply List.ext_getElem
  · simp
  · intro i h1 h2
    simp only [List.getElem_map, List.getElem_range, List.getElem_replicate, List.length_map, List.length_range]
    rw [many_ahead n i n (Nat.le_refl _) (by simpa using h1)]
    rfl
theorem many_made (n : Nat) : madeX ((List.range n).map (fin n)) = fun _ => none := by
  have : ∀ (cs : List Cl) (f : Mk), (∀ c ∈ cs, makesB c = false) → cs.foldl (fun f c => if makesB c then (fun q => if q = c.ky then some c else f q) else f) f = f := by
    intro cs
    induction cs with
    | nil => intro f _; rfl
    | cons a cs ih =>
      intro f h
      rw [List.foldl_cons, h a (by simp)]
      exact ih f (fun c hc => h c (by simp [hc]))
  unfold madeX
  exact this _ _ (fun c hc => by obtain ⟨i, -, rfl⟩ := List.mem_map.1 hc; rfl)
theorem many_possible (n : Nat) (f : Mk) : possibleB f ((List.range n).map (fin n)) = true := by
  unfold possibleB
  rw [List.all_eq_true]
  intro c hc
  obtain ⟨i, -, rfl⟩ := List.mem_map.1 hc
  simp [canTellB, fin, rv0]
theorem many_ord (n : Nat) (hn : n ≤ 64) : ∀ (m left k : Nat) (acc : List Nat) (r : Option (List Nat)), m + k = n → left < 18446744073709551616 → (∀ j, left.testBit j = (decide (k ≤ j) && decide (j < n))) → Ord (List.replicate n 0) left acc r → r = some (acc ++ List.range' k m)
  | 0, left, k, acc, r, hk, hl, hb, h => by
    have h0 : left = 0 := by
      apply Nat.eq_of_testBit_eq
      intro j
      rw [hb, Nat.zero_testBit]
      by_cases e : k ≤ j
      · have : ¬ j < n := by omega
        simp [this]
      · simp [e]
    subst h0
    cases h with
    | done => simp
    | stuck _ _ h0 _ => exact absurd rfl h0
    | step _ _ _ _ h0 _ _ => exact absurd rfl h0
  | m + 1, left, k, acc, r, hk, hl, hb, h => by
    have hbk : left.testBit k = true := by rw [hb]; simp; omega
    have hx : leastX left (List.replicate n 0) = some k := by
      refine leastX_some (by simp; omega) ?_ (fun i hi => ?_)
      · unfold freeB
        rw [hbk, List.getD_eq_getElem?_getD, List.getElem?_replicate, if_pos (by omega)]
        simp
      · unfold freeB
        rw [hb]
        have : ¬ k ≤ i := by omega
        simp [this]
    cases h with
    | done => rw [Nat.zero_testBit] at hbk; cases hbk
    | stuck _ _ _ h2 => rw [hx] at h2; cases h2
    | step _ i _ _ _ h2 h3 =>
      rw [hx] at h2
      cases h2
      have := many_ord n hn m (dropS left k) (k + 1) (acc ++ [k]) r (by omega) (dropS_lt k hl) (fun j => by
        rw [dropS_bit j hl (by omega), hb]
        by_cases e : j = k
        · subst e
          simp
          omega
        · by_cases h4 : k ≤ j
          · have : k + 1 ≤ j := by omega
            simp [e, h4, this]
          · have : ¬ k + 1 ≤ j := by omega
            simp [h4, this]) h3
      rw [this, List.append_assoc]
      rfl
theorem many_all (n : Nat) (hn : n ≤ 64) (r : Option (List Nat)) (h : Ord (List.replicate n 0) (2 ^ n - 1) [] r) : r = some (List.range' 0 n) := by
  have := many_ord n hn n (2 ^ n - 1) 0 [] r (by omega) (firsts_lt hn) (fun j => by rw [firsts_bit]; simp) h
  simpa using this
end Go.Proofs.Ytihicdbplmdjiaa

namespace Go.Proofs.Ytihicdbplmdjiaa
open Go.RowKit (wrap32 wrap64)
set_option linter.unusedVariables false
set_option linter.unusedSimpArgs false

theorem Ord.unique {ws : List Nat} {left : Nat} {acc : List Nat} {r : Option (List Nat)} (h : Ord ws left acc r) : ∀ {r' : Option (List Nat)}, Ord ws left acc r' → r = r' := by
  induction h with
  | done acc =>
    intro r' h'
    cases h' with
    | done => rfl
    | stuck _ _ h => exact absurd rfl h
    | step _ _ _ _ h => exact absurd rfl h
  | stuck left acc h1 h2 =>
    intro r' h'
    cases h' with
    | done => exact absurd rfl h1
    | stuck => rfl
    | step _ i _ _ _ h3 => rw [h2] at h3; cases h3
  | step left i acc r h1 h2 h3 ih =>
    intro r' h'
    cases h' with
    | done => exact absurd rfl h1
    | stuck _ _ _ h4 => rw [h2] at h4; cases h4
    | step _ j _ _ _ h4 h5 => rw [h2] at h4; cases h4; exact ih h5
/-! ### two Publishes of one key -/
abbrev aB : ByteArray := ⟨#[97]⟩
def rv1 : RV := ⟨⟨true, ⟨#[]⟩, [], []⟩, .slice none 0 0, .slice none 0 0⟩
def lm (c : Int) (b : Bool) (R : RV) : Mo := ⟨c, b, 1, 1, aB, R⟩
def livH : List Mo := [lm 0 true rv0, lm 1 true rv0, lm 0 false rv0, lm 1 false rv1]
def livC : List Cl := [⟨0, 2, 1, 1, aB, rv0⟩, ⟨1, 3, 1, 1, aB, rv1⟩]
theorem rp0 : rightReplyB 1 rv0.r = true := by unfold rightReplyB noKeysB rv0; simp [em0]
theorem rp1 : rightReplyB 1 rv1.r = true := by unfold rightReplyB noKeysB rv1; simp [em0]
theorem ro1 : rightOpB 1 1 aB = true := by unfold rightOpB; simp
theorem liv_ref : RefOk livH livC := by
  refine ⟨by decide, rfl, fun c hc => ?_, rfl⟩
  have hc : c = ⟨0, 2, 1, 1, aB, rv0⟩ ∨ c = ⟨1, 3, 1, 1, aB, rv1⟩ := by simpa [livC] using hc
  rcases hc with rfl | rfl
  · refine ⟨lm 0 true rv0, lm 0 false rv0, ⟨rfl, rfl, rfl, ro1, zero0, rfl, rfl, rfl, by decide, rfl, rfl, fun j h1 h2 x hx => ?_, rfl, ?_, rp0, rfl⟩⟩
    · have h1' : 0 < j := h1
      have h2' : j < 2 := h2
      have : j = 1 := by omega
      subst this
      have : x = lm 1 true rv0 := by simpa [livH] using hx.symm
      subst this
      show (1 : Int) ≠ 0
      decide
    · simp [sameOp, lm]
  · refine ⟨lm 1 true rv0, lm 1 false rv1, ⟨rfl, rfl, rfl, ro1, zero0, rfl, rfl, rfl, by decide, rfl, rfl, fun j h1 h2 x hx => ?_, rfl, ?_, rp1, rfl⟩⟩
    · have h1' : 1 < j := h1
      have h2' : j < 3 := h2
      have : j = 2 := by omega
      subst this
      have : x = lm 0 false rv0 := by simpa [livH] using hx.symm
      subst this
      show (0 : Int) ≠ 1
      decide
    · simp [sameOp, lm]
theorem liv_calls : callsX livH = some livC := ref_calls liv_ref
theorem liv_waits : waitsX livC = [2, 0] := by decide
theorem liv_ord : Ord [2, 0] 3 [] (some [1, 0]) := by
  refine Ord.step 3 1 [] _ (by decide) (by decide) ?_
  rw [show dropS 3 1 = 1 by decide]
  refine Ord.step 1 0 _ _ (by decide) (by decide) ?_
  rw [show dropS 1 0 = 0 by decide]
  exact Ord.done _
theorem liv_possible : possibleB (madeX livC) livC = true := by
  unfold possibleB
  rw [List.all_eq_true]
  intro c hc
  have hc : c = ⟨0, 2, 1, 1, aB, rv0⟩ ∨ c = ⟨1, 3, 1, 1, aB, rv1⟩ := by simpa [livC] using hc
  rcases hc with rfl | rfl <;> rfl
/-- What Order tells of it. -/
theorem liv_order {w w' : World} {lv : Value} {ok : Bool} {er : Int} (h : OrderE livH w w' lv ok er) : ok = true ∧ er = 0 ∧ RowAt w' lv ([1, 0].map vI) := by
  rcases h with ⟨e, -⟩ | ⟨cs, e, e2, h⟩
  · rw [liv_calls] at e; cases e
  · rw [liv_calls] at e
    cases e
    rcases h with ⟨h1, -⟩ | ⟨acc, h1, h2, h3, h4⟩
    · rcases h1 with h1 | h1
      · rw [liv_possible] at h1; cases h1
      · rw [liv_waits] at h1
        have := liv_ord.unique h1
        cases this
    · rw [liv_waits] at h2
      have := liv_ord.unique h2
      cases this
      exact ⟨h3, e2, ownsRow_ra h4 rfl⟩
theorem liv_hat {w : World} {g : Nat} (hb : w.heap[g]? = some (.cells (livH.map m9).flatten.toArray 30)) : HAt2 w (.slice (some ⟨g, 0, none⟩) 4 4) livH := by
  have ha : ∀ m ∈ livH, m.R = rv0 ∨ m.R = rv1 := by
    intro m hm
    have hm : m = lm 0 true rv0 ∨ m = lm 1 true rv0 ∨ m = lm 0 false rv0 ∨ m = lm 1 false rv1 := by simpa [livH] using hm
    rcases hm with rfl | rfl | rfl | rfl
    · exact Or.inl rfl
    · exact Or.inl rfl
    · exact Or.inl rfl
    · exact Or.inr rfl
  have hc : ∀ m ∈ livH, (m.c = 0 ∨ m.c = 1) ∧ m.ky = 1 := by
    intro m hm
    have hm : m = lm 0 true rv0 ∨ m = lm 1 true rv0 ∨ m = lm 0 false rv0 ∨ m = lm 1 false rv1 := by simpa [livH] using hm
    rcases hm with rfl | rfl | rfl | rfl <;> simp [lm]
  have hat : ∀ m ∈ livH, m.R.At w ∧ m.R.r.keys = [] := fun m hm => by
    rcases ha m hm with e | e
    · rw [e]; exact ⟨rv0_at w, rfl⟩
    · rw [e]; exact ⟨⟨RowAt.nil w, RowAt.nil w⟩, rfl⟩
  refine ⟨⟨some ⟨g, 0, none⟩, 4, rfl, fun _ => ⟨g, 0, rfl, fun i hi j hj => ?_⟩, fun m hm => ⟨(hat m hm).1, by rw [(hat m hm).2]; simp, ?_⟩⟩, fun m hm => ⟨by rw [(hat m hm).2]; simp, ?_, by rw [(hat m hm).2]; simp⟩⟩
  · rw [cell_of hb, Nat.zero_add, List.getElem?_toArray]
    rw [flat_get (fun r hr => by obtain ⟨m, -, rfl⟩ := List.mem_map.1 hr; rfl) i j (by simpa using hi) hj, List.getElem_map]
  · rcases (hc m hm).1 with e | e <;> rw [e] <;> exact ⟨by decide, by decide⟩
  · rw [(hc m hm).2]; exact ⟨by decide, by decide⟩
set_option maxRecDepth 100000 in
set_option maxHeartbeats 4000000 in
/-- lives. -/
theorem lives_any (w : World) : Calls Try.prog 10 #[] w fun e w' => e = .returned (.bool true) ∧ Fr (fun _ => False) w w' := by
  go_enter Try.func10, Try.ntmps10
  go_upto_region 3 with fail
  obtain ⟨W, eW⟩ : ∃ W, W = ((w.alloc (.cells #[vI 1, vI 1, .string aB] 24)).alloc (.cells (livH.map m9).flatten.toArray 30)) := ⟨_, rfl⟩
  have hf0 : Fr (fun _ => False) w W := by rw [eW]; exact ((Fr.refl _ w).alloc _).alloc _
  have hb0 : W.heap[w.heap.size + 1]? = some (.cells (livH.map m9).flatten.toArray 30) := by
    rw [eW]
    have := heap_alloc_last (w.alloc (.cells #[vI 1, vI 1, .string aB] 24)) (.cells (livH.map m9).flatten.toArray 30)
    rwa [show (w.alloc (.cells #[vI 1, vI 1, .string aB] 24)).heap.size = w.heap.size + 1 by simp] at this
  have hor := order8_any _ livH W (liv_hat hb0)
  have HF0 : Hd (Fr (fun _ => False) w W) := hf0
  show Code.wp Try.prog _ _ _ ((w.alloc (.cells #[vI 1, vI 1, .string aB] 24)).alloc (.cells (livH.map m9).flatten.toArray 30))
  rw [← eW]
  clear hf0 hb0 eW
  go_upto_region 4 with (go_at_call 8; refine hor.mono ?_; rintro _ w3 ⟨lv, ok, er, rfl, hf3, hE⟩; obtain ⟨rfl, rfl, hrow⟩ := liv_order hE; have HF3 : Hd (Fr _ _ _) := hf3; clear hf3 hE)
  have hrow2 : RowAt (w3.alloc (.cells #[vI 1, vI 0] 3)) (.slice (some ⟨w3.heap.size, 0, none⟩) 2 2) ([1, 0].map vI) := by
    have hb := heap_alloc_last w3 (.cells #[vI 1, vI 0] 3)
    refine ⟨some ⟨w3.heap.size, 0, none⟩, 2, rfl, fun _ => ⟨_, 0, rfl, fun i hi => ?_⟩⟩
    rw [cell_of hb, Nat.zero_add]
    have hi : i < 2 := hi
    rcases (show i = 0 ∨ i = 1 by omega) with rfl | rfl <;> rfl
  have hf4 : Fr (fun _ => False) w3 (w3.alloc (.cells #[vI 1, vI 0] 3)) := (Fr.refl _ w3).alloc _
  have HEQ : Hd (Calls Try.prog 14 #[lv, .slice (some ⟨w3.heap.size, 0, none⟩) 2 2] (w3.alloc (.cells #[vI 1, vI 0] 3)) fun e w' => e = .returned (.bool true) ∧ Fr (fun _ => False) w3 w') := by
    refine (eqInts_any lv _ [1, 0] [1, 0] _ (hrow.fr hf4 (fun _ _ _ e => e)) hrow2 (by simp) (by simp)).mono ?_
    rintro _ w' ⟨rfl, f⟩
    exact ⟨by simp, hf4.trans f⟩
  clear hrow2 hf4 hrow hor
  go_wp2_with (go_at_call 14; refine HEQ.out.mono ?_; rintro _ w5 ⟨rfl, hf5⟩; have HF5 : Hd (Fr _ _ _) := hf5; clear hf5)
  go_ret
  exact ⟨rfl, HF0.out.trans (HF3.out.trans HF5.out)⟩
end Go.Proofs.Ytihicdbplmdjiaa

namespace Go.Proofs.Ytihicdbplmdjiaa
open Go.RowKit (wrap32 wrap64)
set_option linter.unusedVariables false
set_option linter.unusedSimpArgs false

/-- What Check tells. -/
def chk (h : List Mo) : Int := if (callsX h).isSome then 0 else 230
theorem chk_same {h ms : List Mo} (e : ms.map Mo.pl = h.map Mo.pl) : chk ms = chk h := by
  unfold chk
  rcases calls_same e with ⟨e1, e2⟩ | ⟨a, b, e1, e2, -⟩ <;> rw [e1, e2] <;> rfl
/-- Check, of a copy. -/
theorem check_copy {hv lv : Value} {h ms : List Mo} {w W : World} {B : Nat} (hh : HAt2 w hv h) (hc : Cps W B lv h ms) (hl : ms.length = h.length) :
    Calls Try.prog 7 #[lv] W fun e w' => e = .returned (vI (chk h)) ∧ Fr (fun _ => False) W w' := by
  have := check_any lv ms W (hc.hat hh)
  rw [← chk_same (hc.pl hl)]
  exact this
set_option maxRecDepth 100000 in
set_option maxHeartbeats 4000000 in
/-- HISTORDERS. -/
theorem histOrders_any (hv : Value) (h : List Mo) (w : World) (hh : HAt2 w hv h) (hl : h.length ≤ 1000000000000000000) (hvl : ∀ m ∈ h, m.R.r.vals.length ≤ 1000000000000000000) :
    Calls Try.prog 5 #[hv] w fun e w' => e = .returned (.bool true) ∧ Fr (fun _ => False) w w' := by
  have hlo := long_any hv h w hh.1 hl hvl
  have HH : Hd (HAt2 w hv h) := hh
  have LV : Hd (∀ W, Calls Try.prog 10 #[] W fun e w' => e = .returned (.bool true) ∧ Fr (fun _ => False) W w') := lives_any
  clear hh hl hvl
  go_enter Try.func5, Try.ntmps5
  go_wp2_with fail
  refine hlo.mono ?_
  rintro _ w1 ⟨LG, rfl, hf1, hb⟩
  have HF1 : Hd (Fr (fun _ => False) w w1) := hf1
  have HB : Hd (LG = false → h.length ≤ 2147483647 ∧ ∀ m ∈ h, m.R.r.keys.length ≤ 2147483647 ∧ m.R.r.vals.length ≤ 2147483647) := hb
  clear hlo hf1 hb
  cases LG
  · obtain ⟨hl, hL⟩ := HB.out rfl
    have CP : Hd (∀ W, Fr (fun _ => False) w W → Calls Try.prog 11 #[hv] W fun e w' => CpH h W w' e) := fun W f => copyHistory_any hv h W (HH.out.fr f).1 (by omega) (fun m hm => by have := hL m hm; omega)
    have RC : Hd (∀ W, Fr (fun _ => False) w W → Calls Try.prog 15 #[hv] W fun e w' => e = .returned (vI (chk h)) ∧ Fr (fun _ => False) W w') := fun W f => rcheck_any hv h W (HH.out.fr f).1 (by omega)
    have PL : Hd (∀ W ov os cs, Fr (fun _ => False) w W → RowAt W ov (os.map vI) → os.length ≤ 4000000000 → callsX h = some cs → Calls Try.prog 16 #[hv, ov] W fun e w' => e = .returned (.bool (playedX cs os)) ∧ Fr (fun _ => False) W w') := fun W ov os cs f hr ho hc =>
      played_any hv ov h os W (HH.out.fr f).1 (by omega) (fun m hm => by have := hL m hm; omega) hr ho hc
    clear HB hl hL
    go_upto_region 4 with (go_at_call 10; refine (LV.out _).mono ?_; rintro _ w2 ⟨rfl, hf2⟩; replace HF1 : Hd (Fr _ _ _) := HF1.out.trans hf2; clear hf2)
    clear LV
    go_upto_region 5 with (first | (go_at_call 11; refine (CP.out _ HF1.out).mono ?_; rintro _ w3 ⟨c1, ms, rfl, hf3, hlen, hcp⟩; replace HF1 : Hd (Fr _ _ _) := HF1.out.trans hf3; have HC1 : Hd (Cps w3 _ c1 h ms ∧ ms.length = h.length) := ⟨hcp, hlen⟩; clear hf3 hlen hcp) | (go_at_call 8; refine (order8_any c1 ms w3 (HC1.out.1.hat HH.out)).mono ?_; rintro _ w4 ⟨lv, ok, er, rfl, hf4, hE⟩; replace HF1 : Hd (Fr _ _ _) := HF1.out.trans hf4; have HE : Hd _ := copy_order (HC1.out.1.pl HC1.out.2) hE; clear hf4 hE))
    rcases HE.out with ⟨hn, rfl, rfl, rfl⟩ | ⟨cs, hs, rfl, hres⟩
    · have CHK : Hd (chk h = 230) := by show chk h = 230; unfold chk; rw [hn]; rfl
      clear HE hn PL
      go_upto_region 6 with (first | (go_at_call 11; refine (CP.out _ HF1.out).mono ?_; rintro _ w5 ⟨c2, ms2, rfl, hf5, hlen, hcp⟩; replace HF1 : Hd (Fr _ _ _) := HF1.out.trans hf5; have HC2 : Hd (Cps w5 _ c2 h ms2 ∧ ms2.length = h.length) := ⟨hcp, hlen⟩; clear hf5 hlen hcp) | (go_at_call 7; refine (check_copy HH.out HC2.out.1 HC2.out.2).mono ?_; rintro _ w6 ⟨rfl, hf6⟩; have HF6 : Hd (Fr _ _ _) := hf6; replace HF1 : Hd (Fr _ _ _) := HF1.out.trans hf6; clear hf6; rw [show chk h = 230 from CHK.out]))
      go_wp2_with (go_at_call 15; refine (RC.out _ HF1.out).mono ?_; rintro _ w7 ⟨rfl, hf7⟩; replace HF1 : Hd (Fr _ _ _) := HF1.out.trans hf7; clear hf7; rw [show chk h = 230 from CHK.out])
      go_ret
      exact ⟨by simp, HF1.out⟩
    · have CHK : Hd (chk h = 0) := by show chk h = 0; unfold chk; rw [hs]; rfl
      rcases hres with ⟨-, rfl, rfl⟩ | ⟨acc, hp, hord, rfl, hown⟩
      · clear HE hs PL RC
        go_upto_region 7 with (first | (go_at_call 11; refine (CP.out _ HF1.out).mono ?_; rintro _ w5 ⟨c2, ms2, rfl, hf5, hlen, hcp⟩; replace HF1 : Hd (Fr _ _ _) := HF1.out.trans hf5; have HC2 : Hd (Cps w5 _ c2 h ms2 ∧ ms2.length = h.length) := ⟨hcp, hlen⟩; clear hf5 hlen hcp) | (go_at_call 7; refine (check_copy HH.out HC2.out.1 HC2.out.2).mono ?_; rintro _ w6 ⟨rfl, hf6⟩; have HF6 : Hd (Fr _ _ _) := hf6; replace HF1 : Hd (Fr _ _ _) := HF1.out.trans hf6; clear hf6; rw [show chk h = 0 from CHK.out]))
        go_wp2_with fail
        go_ret
        exact ⟨by simp, HF1.out⟩
      · have h64 : cs.length ≤ 64 := (calls_fine HH.out.2 hs).2
        have HPX : Hd (playedX cs (acc.map (fun i => (((cs[i]?.map Cl.b).getD 0 : Nat) : Int))) = true ∧ callsX h = some cs) := ⟨order_played hs h64 hp hord, hs⟩
        obtain ⟨os, eos⟩ : ∃ os : List Int, os = acc.map (fun i => (((cs[i]?.map Cl.b).getD 0 : Nat) : Int)) := ⟨_, rfl⟩
        rw [← eos] at HPX
        have hol : os.length ≤ 64 := by
          obtain ⟨hg, ha⟩ := order_good h64 hord
          have := (seqX_seq (calls_begun hs).2 hg ha).2.2
          rw [eos, List.length_map, this]; exact h64
        have hrow : RowAt w4 lv (os.map vI) := by
          have := ownsRow_ra hown (by simp)
          rw [eos]
          simpa [List.map_map, Function.comp_def] using this
        obtain ⟨la, lc, rfl⟩ := row_slice hrow
        obtain ⟨no, eno⟩ : ∃ no, no = (os.map vI).length := ⟨_, rfl⟩
        rw [← eno] at hrow ⊢
        have HROW : Hd (RowAt w4 (.slice la no lc) (os.map vI) ∧ os.length ≤ 4000000000) := ⟨hrow, by omega⟩
        have HG : Hd (Fr (fun _ => False) w4 w4) := Fr.refl _ _
        clear HE hs RC hord hown hrow hol eos eno hp
        go_upto_region 7 with (first | (go_at_call 11; refine (CP.out _ HF1.out).mono ?_; rintro _ w5 ⟨c2, ms2, rfl, hf5, hlen, hcp⟩; replace HF1 : Hd (Fr _ _ _) := HF1.out.trans hf5; replace HG : Hd (Fr _ _ _) := HG.out.trans hf5; have HC2 : Hd (Cps w5 _ c2 h ms2 ∧ ms2.length = h.length) := ⟨hcp, hlen⟩; clear hf5 hlen hcp) | (go_at_call 7; refine (check_copy HH.out HC2.out.1 HC2.out.2).mono ?_; rintro _ w6 ⟨rfl, hf6⟩; have HF6 : Hd (Fr _ _ _) := hf6; replace HF1 : Hd (Fr _ _ _) := HF1.out.trans hf6; replace HG : Hd (Fr _ _ _) := HG.out.trans hf6; clear hf6; rw [show chk h = 0 from CHK.out]))
        have hp := PL.out w6 (.slice la no lc) os cs HF1.out (HROW.out.1.fr HG.out (fun _ _ _ e => e)) HROW.out.2 HPX.out.2
        rw [HPX.out.1] at hp
        clear PL CP HROW HPX HC1 HC2 HH
        go_wp2_with (go_at_call 16; refine hp.mono ?_; rintro _ w7 ⟨rfl, hf7⟩; replace HF1 : Hd (Fr _ _ _) := HF1.out.trans hf7; clear hf7)
        go_ret
        exact ⟨rfl, HF1.out⟩
  · go_wp2_with fail
    go_ret
    exact ⟨rfl, HF1.out⟩
end Go.Proofs.Ytihicdbplmdjiaa
