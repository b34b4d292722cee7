import Derived.Test.YtihicdbplmdjiaaQC0
import Derived.Sort.QuietThIn
namespace Go.Proofs.Ytihicdbplmdjiaa
open Go Go.RowKit
set_option linter.unusedVariables false
set_option linter.unusedSimpArgs false

variable {F : Fence} {n : Nat} {P : Program} {ops : Array Oper} {md : Region.Mode} {C : World → Prop}

/-- What has come up had all that it waits for. -/
def ClosedL (md : Region.Mode) (ops : Array Oper) (listed : Array Bool) : Prop := ∀ k ok, ops[k]? = some ok → listed.getD k false = true → ∀ e ∈ ok.after, Region.binds md e = true → listed.getD e.on false = true
theorem ClosedL.step {listed : Array Bool} (h : ClosedL md ops listed) {i : Nat} (hi : i ∈ Region.ready md ops listed) : ClosedL md ops (listed.setIfInBounds i true) := fun k ok hk hl e he hb => by
  apply getD_set_true
  by_cases hki : i = k
  · subst hki
    obtain ⟨-, o, ho, hall⟩ := mem_ready.1 hi
    rw [hk] at ho
    cases ho
    exact hall e he hb
  · rw [getD_set_ne false hki] at hl
    exact h k ok hk hl e he hb
/-- Each operation ahead of y is one that another one, up to y, waits for. -/
def chainB (md : Region.Mode) (ops : Array Oper) (y : Nat) : Bool := (List.range y).all fun i => (List.range (y + 1)).any fun s => decide (i < s) && ((ops[s]?).map (·.after.any fun e => Region.binds md e && e.on == i)).getD false
theorem all_listed {y : Nat} (hc : chainB md ops y = true) {listed : Array Bool} (h : ClosedL md ops listed) (hy : y ∈ Region.ready md ops listed) : ∀ (m i : Nat), y - i ≤ m → i < y → listed.getD i false = true := by
  intro m
  induction m with
  | zero => intro i h1 h2; omega
  | succ m ih =>
    intro i h1 h2
    have h3 := List.all_eq_true.1 hc i (List.mem_range.2 h2)
    obtain ⟨s, hs, h4⟩ := List.any_eq_true.1 h3
    simp only [Bool.and_eq_true, decide_eq_true_eq] at h4
    obtain ⟨h5, h6⟩ := h4
    have hsy : s ≤ y := by have := List.mem_range.1 hs; omega
    cases ho : ops[s]? with
    | none => rw [ho] at h6; simp at h6
    | some os =>
      rw [ho] at h6
      simp only [Option.map_some, Option.getD_some, Array.any_eq_true] at h6
      obtain ⟨q, hq, h7⟩ := h6
      simp only [Bool.and_eq_true, beq_iff_eq] at h7
      obtain ⟨hb, he⟩ := h7
      by_cases e : s = y
      · subst e
        obtain ⟨-, o, ho', hall⟩ := mem_ready.1 hy
        rw [ho] at ho'
        cases ho'
        rw [← he]
        exact hall _ (Array.getElem_mem hq) hb
      · have := ih s (by omega) (by omega)
        rw [← he]
        exact h s os ho this _ (Array.getElem_mem hq) hb

/-- Whatever order is picked from here on, till the tail. -/
def wpAnyT (F : Fence) (n : Nat) (P : Program) (md : Region.Mode) (ops : Array Oper) (C : World → Prop) (T : Nat → Array Bool → Act → Prop) : Nat → Array Bool → Act → Prop
  | 0, listed, a => T 0 listed a
  | fuel + 1, listed, a => T (fuel + 1) listed a ∨ (Region.ready md ops listed ≠ [] ∧ ∀ i ∈ Region.ready md ops listed, qOpIn F n P ops C i (wpAnyT F n P md ops C T fuel (listed.setIfInBounds i true)) a)

theorem wpAnyIn_of_T {T : Nat → Array Bool → Act → Prop} {Q' : Exit → Act → World → Prop} (hro : F.round = none) (hT : ∀ fuel listed a, T fuel listed a → ∀ w, C w → wpAnyIn F n P md ops Q' fuel listed a w) : ∀ (fuel : Nat) (listed : Array Bool) (a : Act) (w : World), C w →
    wpAnyT F n P md ops C T fuel listed a → wpAnyIn F n P md ops Q' fuel listed a w
  | 0, _, _, w, hw, h => hT _ _ _ h w hw
  | fuel + 1, _, _, w, hw, h => by
    rcases h with h | ⟨h0, h⟩
    · exact hT _ _ _ h w hw
    · exact ⟨fun e => absurd e h0, fun i hi => wpOpIn_of_qOpIn hro hw (fun a' w' hw' => wpAnyIn_of_T hro hT fuel _ a' w' hw') (h i hi)⟩

theorem wpAnyT_first {T : Nat → Array Bool → Act → Prop} {y i : Nat} {oi : Oper} {v : Value} (hi : ops[i]? = some oi) (hiy : i < y) (hsel : ∀ (j : Nat) (o : Oper) cs b, ops[j]? = some o → o.op ≠ .select cs b) (hc : chainB md ops y = true) (hT : ∀ fuel listed a, T fuel listed a → Region.ready md ops listed = [y]) :
    ∀ (fuel : Nat) (listed : Array Bool) (a : Act), ClosedL md ops listed →
      (∀ j oj, ops[j]? = some oj → j ≠ i → listed.getD j true = false → (∀ e ∈ oj.after, Region.binds md e = true → e.on ≠ i) → oi.apart ops oj = true) →
      i ∈ Region.ready md ops listed → YieldsQuiet F n P ops C oi v a →
      wpAnyT F n P md ops C T fuel (listed.setIfInBounds i true) (a.put oi.dst v) → wpAnyT F n P md ops C T (fuel + 1) listed a := by
  have key : ∀ (listed : Array Bool) (j : Nat), ClosedL md ops listed → i ∈ Region.ready md ops listed → j ∈ Region.ready md ops listed → j ≠ i → Region.ready md ops (listed.setIfInBounds i true) = [y] → False := fun listed j hcl hr hj hji hy => by
    have h1 := ready_mono hj hji
    rw [hy] at h1
    obtain rfl : j = y := by simpa using h1
    have h2 := all_listed hc hcl hj _ i (Nat.le_refl _) hiy
    have h3 := (mem_ready.1 hr).1
    rcases Nat.lt_or_ge i listed.size with h' | h'
    · simp [h'] at h2 h3; rw [h3] at h2; cases h2
    · simp [Array.getElem?_eq_none h'] at h2
  intro fuel
  induction fuel with
  | zero =>
    intro listed a hcl _ hr hy H
    refine Or.inr ⟨fun h => (by rw [h] at hr; cases hr), fun j hj => ?_⟩
    by_cases hji : j = i
    · subst hji; exact hy.qOpIn hi H
    · exact (key listed j hcl hr hj hji (hT _ _ _ H)).elim
  | succ fuel ih =>
    intro listed a hcl hfree hr hy H
    refine Or.inr ⟨fun h => (by rw [h] at hr; cases hr), fun j hj => ?_⟩
    by_cases hji : j = i
    · subst hji; exact hy.qOpIn hi H
    · rcases H with H | ⟨-, H⟩
      · exact (key listed j hcl hr hj hji (hT _ _ _ H)).elim
      · have h1 := H j (ready_mono hj hji)
        obtain ⟨hjun, oj, hoj, hall⟩ := mem_ready.1 hj
        have hnot : ∀ e ∈ oj.after, Region.binds md e = true → e.on ≠ i := fun e he hb heq => by
          have h1 := hall e he hb
          have h0 := (mem_ready.1 hr).1
          rw [heq] at h1
          rcases Nat.lt_or_ge i listed.size with h' | h'
          · simp [h'] at h0 h1; rw [h0] at h1; cases h1
          · simp [Array.getElem?_eq_none h'] at h1
        have h2 := qOpIn_put hoj (hfree j oj hoj hji hjun hnot) (fun cs b => hsel i oi cs b hi) (fun cs b => hsel j oj cs b hoj) hy h1
        have hfree' : ∀ k ok, ops[k]? = some ok → k ≠ i → (listed.setIfInBounds j true).getD k true = false →
            (∀ e ∈ ok.after, Region.binds md e = true → e.on ≠ i) → oi.apart ops ok = true := fun k ok hk hki hun hno => by
          refine hfree k ok hk hki ?_ hno
          by_cases hjk : j = k
          · subst hjk; exact hjun
          · rw [getD_set_ne true hjk] at hun; exact hun
        refine qOpIn_mono (fun a' h3 => ih (listed.setIfInBounds j true) a' (hcl.step hj) hfree' (ready_mono hr (Ne.symm hji)) h3.1 ?_) h2
        rw [Array.setIfInBounds_comm _ _ hji]
        exact h3.2

def listedAfter : Nat → Nat → Array Bool → Array Bool
  | 0, _, l => l
  | m + 1, k, l => listedAfter m (k + 1) (l.setIfInBounds k true)
def lexP (md : Region.Mode) (ops : Array Oper) : Nat → Nat → Array Bool → Bool
  | 0, _, _ => true
  | m + 1, k, listed => (Region.ready md ops listed).contains k && Region.free md ops listed k && lexP md ops m (k + 1) (listed.setIfInBounds k true)

theorem wpAnyT_lex {T : Nat → Array Bool → Act → Prop} {Q : Act → Prop} {y f0 : Nat} (hs : Region.noSelect ops = true) (hc : chainB md ops y = true) (hT : ∀ fuel listed a, T fuel listed a → Region.ready md ops listed = [y]) : ∀ (l : List Oper) (k : Nat) (listed : Array Bool) (a : Act), (∀ j, j < l.length → l[j]? = ops[k + j]?) → k + l.length = y → ClosedL md ops listed →
    lexP md ops l.length k listed = true → (∀ a, Q a → T f0 (listedAfter l.length k listed) a) → wpQuietIn F n P ops C Q l a → wpAnyT F n P md ops C T (l.length + f0) listed a
  | [], _, listed, a, _, _, _, _, hQ, h => by
    have h1 : T f0 listed a := hQ a h
    simp only [List.length_nil, Nat.zero_add]
    cases f0 with
    | zero => exact h1
    | succ f => exact Or.inl h1
  | o :: l, k, listed, a, hl, hk, hcl, hB, hQ, h => by
    have h0 : ops[k]? = some o := by simpa using (hl 0 (by simp)).symm
    simp only [List.length_cons, lexP, Bool.and_eq_true] at hB
    obtain ⟨⟨hr, hf⟩, hB'⟩ := hB
    have hst : qOpIn F n P ops C k (wpQuietIn F n P ops C Q l) a := by unfold qOpIn; simp only [h0]; exact h
    obtain ⟨v, hy, hK⟩ := yieldsQuiet_of_qOpIn h0 hst
    have hr' : k ∈ Region.ready md ops listed := by simpa using hr
    have := wpAnyT_lex hs hc hT l (k + 1) (listed.setIfInBounds k true) (a.put o.dst v) (fun j hj => by have := hl (j + 1) (by simp; omega); simpa [Nat.add_assoc, Nat.add_comm 1 j] using this) (by simp at hk; omega) (hcl.step hr') hB' hQ hK
    have e : (o :: l).length + f0 = l.length + f0 + 1 := by simp; omega
    rw [e]
    exact wpAnyT_first h0 (by simp at hk; omega) (Region.noSelect_spec hs) hc hT (l.length + f0) listed a hcl (Region.free_spec h0 hf) hr' hy this

theorem nothing_listed (m k : Nat) : (Array.replicate m false).getD k false = false := by
  simp only [Array.getD_eq_getD_getElem?, Array.getElem?_replicate]
  split <;> rfl

/-- A region that draws its order: its first y operations, each of which operation y waits for, leave a world of the class: they are walked once, in the text's order; then comes what is left. -/
theorem wpIn_region_tail {id y : Nat} {Q : Exit → Act → World → Prop} {a : Act} {w : World} {l : List Oper} (hro : F.round = none) (hm : P.follows .mixedOrders = true) (hs : Region.noSelect l.toArray = true) (hc : chainB .any l.toArray y = true) (hy : y ≤ l.length)
    (hB : lexP .any l.toArray y 0 (Array.replicate l.length false) = true) (hr : Region.ready .any l.toArray (listedAfter y 0 (Array.replicate l.length false)) = [y]) (hC : C { w with drawn := w.drawn + 1 })
    (h : wpQuietIn F n P l.toArray C (fun a' => ∀ w', C w' → wpAnyIn F n P .any l.toArray Q (l.length - y) (listedAfter y 0 (Array.replicate l.length false)) a' w') (l.take y) a) : (Code.region id l.toArray true).wpIn F n P Q a w := by
  have hlt : (l.take y).length = y := by rw [List.length_take]; omega
  refine wpIn_region_any hm (wpAnyIn_of_T (T := fun fuel listed a' => Region.ready .any l.toArray listed = [y] ∧ ∀ w', C w' → wpAnyIn F n P .any l.toArray Q fuel listed a' w') hro (fun _ _ _ h w' hw' => h.2 w' hw') _ _ _ _ hC ?_)
  have := wpAnyT_lex (F := F) (n := n) (P := P) (C := C) (md := .any) (ops := l.toArray) (f0 := l.length - y) (T := fun fuel listed a' => Region.ready .any l.toArray listed = [y] ∧ ∀ w', C w' → wpAnyIn F n P .any l.toArray Q fuel listed a' w') hs hc (fun _ _ _ h => h.1) (l.take y) 0 (Array.replicate l.length false) a (fun j hj => by rw [hlt] at hj; simp [List.getElem?_take, hj]) (by omega) (fun k ok _ hl => by rw [nothing_listed] at hl; cases hl) (by rw [hlt]; exact hB) (fun a' h' => by rw [hlt]; exact ⟨hr, h'⟩) h
  rw [hlt] at this
  have e : y + (l.length - y) = l.length := by omega
  rw [e] at this
  simpa using this

theorem wpAnyIn_only {Q : Exit → Act → World → Prop} {fuel k : Nat} {listed : Array Bool} {a : Act} {w : World} {o : Oper} (hr : Region.ready md ops listed = [k]) (ho : ops[k]? = some o) (hw : Region.wanted o (yielded ops a.tmps) = true) (h : o.wpIn F n P a w (wpAnyIn F n P md ops Q fuel (listed.setIfInBounds k true)) Q) : wpAnyIn F n P md ops Q (fuel + 1) listed a w := by
  refine ⟨fun e => (by rw [hr] at e; cases e), fun i hi => ?_⟩
  rw [hr] at hi
  obtain rfl : i = k := by simpa using hi
  unfold wpOpIn
  simp only [ho, hw, if_true]
  exact h
theorem wpAnyIn_end {Q : Exit → Act → World → Prop} {listed : Array Bool} {a : Act} {w : World} (hr : Region.ready md ops listed = []) (h : Q .normal a w) : wpAnyIn F n P md ops Q 0 listed a w := ⟨hr, h⟩

end Go.Proofs.Ytihicdbplmdjiaa
