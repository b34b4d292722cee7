import Derived.Test.YtihicdbplmdjiaaQA9
namespace Go.Proofs.Ytihicdbplmdjiaa
open Go.RowKit (wrap32 wrap64)
open Go.Maps (Keyed)
set_option linter.unusedVariables false
set_option linter.unusedSimpArgs false

/-! ### what callsOf gives -/
structure COk (c : Cl) : Prop where
  fine : CFine c
  ky : In64 c.ky
  keys : ∀ x ∈ c.R.r.keys, In64 x
  kinds : c.kd = 1 ∨ c.kd = 2 ∨ c.kd = 3
structure MOk (m : Mo) : Prop where
  len : m.R.r.keys.length ≤ 1000000000000000000
  ky : In64 m.ky
  keys : ∀ x ∈ m.R.r.keys, In64 x
theorem run_fine (h : List Mo) (hm : ∀ m ∈ h, MOk m) : ∀ k s, runO h k = some s → ∀ c ∈ s.cs, COk c
  | 0, s, e => by cases e; simp
  | k + 1, s', e => by
    cases e0 : runO h k with
    | none => rw [runO_none e0 1] at e; cases e
    | some s =>
      have ih := run_fine h hm k s e0
      cases em : h[k]? with
      | none =>
        have : runO h (k + 1) = some s := by
          show (runO h k).bind _ = _
          rw [e0]; show (match h[k]? with | none => some s | some m => stepO k m s) = _; rw [em]
        rw [this] at e; cases e
        exact ih
      | some m =>
        have hmm := hm m (List.mem_of_getElem? em)
        rw [runO_step e0 em] at e
        unfold stepO at e
        split at e
        · split at e
          · next hcond =>
            cases e
            intro c hc
            rcases List.mem_append.1 hc with hc | hc
            · exact ih c hc
            · rw [List.mem_singleton.1 hc]
              refine ⟨⟨fun _ i j hj => absurd hj (by simp [begun, rv0]), by simp [begun, rv0], fun _ => rfl⟩, hmm.ky, by simp [begun, rv0], ?_⟩
              show m.kd = 1 ∨ m.kd = 2 ∨ m.kd = 3
              simp only [Bool.and_eq_true] at hcond
              have h := hcond.1.2
              unfold rightOpB at h
              simp only [Bool.or_eq_true, Bool.and_eq_true, decide_eq_true_eq] at h
              rcases h with (h | h) | h
              · exact Or.inl h
              · exact Or.inr (Or.inl h.1)
              · exact Or.inr (Or.inr h.1.1)
          · cases e
        · next i hl =>
          split at e
          · cases e
          · next c0 hc0 =>
            split at e
            · next hcond =>
              cases e
              intro c hc
              rcases List.mem_or_eq_of_mem_set hc with hc | rfl
              · exact ih c hc
              · simp only [Bool.and_eq_true] at hcond
                obtain ⟨⟨-, hs⟩, hr⟩ := hcond
                have hs2 := of_decide_eq_true hs
                have hkd : (c0.ended k m).kd = m.kd := hs2.1.symm
                have hky : (c0.ended k m).ky = m.ky := hs2.2.1.symm
                have h3 : (c0.ended k m).kd = 3 → riseB m.R.r.keys = true ∧ m.R.r.vals.length = m.R.r.keys.length := fun e3 => by
                  rw [hkd] at e3
                  unfold rightReplyB at hr
                  rw [if_pos e3] at hr
                  simp only [Bool.and_eq_true, decide_eq_true_eq] at hr
                  exact ⟨hr.2, hr.1.2.symm⟩
                exact ⟨⟨fun e3 => riseB_rises (h3 e3).1, hmm.len, fun e3 => (h3 e3).2⟩, by rw [hky]; exact hmm.ky, hmm.keys, (ih c0 (List.mem_of_getElem? hc0)).kinds⟩
            · cases e
theorem run_two (h : List Mo) : ∀ k s, runO h k = some s → 2 * s.cs.length ≤ k + s.op.length
  | 0, s, e => by cases e; simp
  | k + 1, s', e => by
    cases e0 : runO h k with
    | none => rw [runO_none e0 1] at e; cases e
    | some s =>
      have ih := run_two h k s e0
      have hok := stOk_run h k s e0
      cases em : h[k]? with
      | none =>
        have : runO h (k + 1) = some s := by
          show (runO h k).bind _ = _
          rw [e0]; show (match h[k]? with | none => some s | some m => stepO k m s) = _; rw [em]
        rw [this] at e; cases e
        omega
      | some m =>
        rw [runO_step e0 em] at e
        unfold stepO at e
        split at e
        · split at e
          · cases e
            simp only [List.length_append, List.length_cons, List.length_nil]
            omega
          · cases e
        · next i hl =>
          split at e
          · cases e
          · split at e
            · cases e
              have := filter_len hok.nodup hl
              simp only [List.length_set]
              omega
            · cases e
theorem calls_fine {h : List Mo} (hm : ∀ m ∈ h, MOk m) {cs : List Cl} (e : callsX h = some cs) : (∀ c ∈ cs, COk c) ∧ (cs.length ≤ 64) := by
  unfold callsX at e
  split at e
  · cases e
  · next hl =>
    cases e0 : runO h h.length with
    | none => rw [e0] at e; cases e
    | some s =>
      rw [e0] at e
      simp only [Option.bind_some] at e
      split at e
      · cases e
        refine ⟨run_fine h hm _ s e0, ?_⟩
        have := run_two h _ s e0
        next hop =>
        rw [hop] at this
        simp at this
        omega
      · cases e
/-- Calls as they lie. -/
def CAt (w : World) (lv : Value) (cs : List Cl) : Prop :=
  ∃ ad cap, lv = .slice ad cs.length cap ∧ (cs ≠ [] → ∃ g, ad = some ⟨g, 0, none⟩ ∧ ∀ i (hi : i < cs.length) j, j < 9 → w.cell? ⟨g, i * 9 + j, none⟩ = (c9 cs[i])[j]?) ∧ ∀ c ∈ cs, c.R.At w ∧ COk c
theorem CAt.fr {w w' : World} {lv : Value} {cs : List Cl} (h : CAt w lv cs) (f : Fr (fun _ => False) w w') : CAt w' lv cs := by
  obtain ⟨ad, cap, e, h1, h2⟩ := h
  refine ⟨ad, cap, e, fun hne => ?_, fun c hc => ⟨(h2 c hc).1.fr f, (h2 c hc).2⟩⟩
  obtain ⟨g, ea, hx⟩ := h1 hne
  refine ⟨g, ea, fun i hi j hj => (f.cell ?_ (fun e => e)).trans (hx i hi j hj)⟩
  have := hx i hi j hj
  rw [List.getElem?_eq_getElem (by exact hj)] at this
  exact cell_lt this
theorem COwn.cat {w : World} {B : Nat} {v : Value} {cs : List Cl} (h : COwn w B v cs) (hc : ∀ c ∈ cs, c.R.At w ∧ COk c) : CAt w v cs := by
  by_cases hne : cs = []
  · subst hne
    obtain ⟨ad, cap, e⟩ := h.val
    exact ⟨ad, cap, e, fun x => absurd rfl x, hc⟩
  · obtain ⟨g, cap, e, -, -, -, hx⟩ := h.cells hne
    exact ⟨_, cap, e, fun _ => ⟨g, rfl, hx⟩, hc⟩
/-- A history as it lies, with what is known of its moments. -/
def HAt2 (w : World) (hv : Value) (h : List Mo) : Prop := HAt w hv h ∧ ∀ m ∈ h, MOk m
theorem HAt2.fr {w w' : World} {hv : Value} {h : List Mo} (x : HAt2 w hv h) (f : Fr (fun _ => False) w w') : HAt2 w' hv h := ⟨x.1.fr f, x.2⟩

set_option maxHeartbeats 1000000 in
/-- Check. -/
theorem check_any (hv : Value) (h : List Mo) (w : World) (hh : HAt2 w hv h) :
    Calls Try.prog 7 #[hv] w fun e w' => e = .returned (vI (if (callsX h).isSome then 0 else 230)) ∧ Fr (fun _ => False) w w' := by
  have hc := callsOf_any hv h w hh.1
  obtain ⟨E, hE⟩ : ∃ E : Int, E = if (callsX h).isSome then 0 else 230 := ⟨_, rfl⟩
  have HX : Hd (E = if (callsX h).isSome then 0 else 230) := hE
  rw [← hE]
  clear hh hE
  go_enter Try.func7, Try.ntmps7
  go_wp2_with (go_at_call 23; refine hc.mono ?_; rintro _ w3 ⟨lv, ok, rfl, hf3, hE⟩; have HF3 : Hd _ := hf3; have HE : Hd (CsE _ _ _ _ _) := hE; clear hf3 hE; cases ok)
  · go_ret
    refine ⟨?_, HF3.out⟩
    rcases HE.out with ⟨e, -⟩ | ⟨cs, -, e, -⟩
    · rw [HX.out, e]; rfl
    · cases e
  · go_ret
    refine ⟨?_, HF3.out⟩
    rcases HE.out with ⟨-, e⟩ | ⟨cs, e, -⟩
    · cases e
    · rw [HX.out, e]; rfl
end Go.Proofs.Ytihicdbplmdjiaa
