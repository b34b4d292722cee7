import Derived.Test.YtihicdbplmdjiaaQC4
namespace Go.Proofs.Ytihicdbplmdjiaa
open Go.RowKit (wrap32 wrap64)
set_option linter.unusedVariables false
set_option linter.unusedSimpArgs false

theorem made_mem (q : Int) (c : Cl) : ∀ (cs : List Cl) (f : Mk), cs.foldl (fun f c => if makesB c then (fun q => if q = c.ky then some c else f q) else f) f q = some c → c ∈ cs ∨ f q = some c
  | [], f, h => Or.inr h
  | a :: cs, f, h => by
    rw [List.foldl_cons] at h
    rcases made_mem q c cs _ h with h1 | h1
    · exact Or.inl (List.mem_cons_of_mem _ h1)
    · by_cases hm : makesB a = true
      · rw [if_pos hm] at h1
        by_cases hq : q = a.ky
        · simp only [hq, if_true, Option.some.injEq] at h1
          exact Or.inl (by rw [h1]; exact List.mem_cons_self)
        · simp only [if_neg hq] at h1
          exact Or.inr h1
      · rw [if_neg hm] at h1
        exact Or.inr h1
theorem madeX_mem {cs : List Cl} {q : Int} {c : Cl} (h : madeX cs q = some c) : c ∈ cs := by
  rcases made_mem q c cs _ h with h | h
  · exact h
  · cases h
/-- What Order tells. -/
def OrderE (h : List Mo) (w w' : World) (lv : Value) (ok : Bool) (er : Int) : Prop :=
  (callsX h = none ∧ lv = .slice none 0 0 ∧ ok = false ∧ er = 230) ∨ ∃ cs, callsX h = some cs ∧ er = 0 ∧ OrdE (madeX cs) cs w w' lv ok
def OrderR (h : List Mo) (w : World) (e : Ending) (w' : World) : Prop := ∃ lv ok er, e = .returned (.tuple #[lv, .bool ok, vI er]) ∧ Fr (fun _ => False) w w' ∧ OrderE h w w' lv ok er

set_option maxHeartbeats 2000000 in
theorem order8_any (hv : Value) (h : List Mo) (w : World) (hh : HAt2 w hv h) : Calls Try.prog 8 #[hv] w fun e w' => OrderR h w e w' := by
  have hc := callsOf_any hv h w hh.1
  have HM : Hd (∀ m ∈ h, MOk m) := hh.2
  clear hh
  go_enter Try.func8, Try.ntmps8
  go_upto_region 2 with (go_at_call 23; refine hc.mono ?_; rintro _ w3 ⟨lv, ok, rfl, hf3, hE⟩; have HF3 : Hd (Fr _ _ _) := hf3; have HE : Hd (CsE _ _ _ _ _) := hE; clear hf3 hE)
  cases ok
  · go_wp2_with fail
    go_ret3
    refine ⟨_, _, _, rfl, HF3.out, Or.inl ⟨?_, rfl, rfl, rfl⟩⟩
    rcases HE.out with ⟨e, -⟩ | ⟨cs, -, e, -⟩
    · exact e
    · cases e
  · obtain ⟨cs, ecs, hown, hat⟩ : ∃ cs, callsX h = some cs ∧ COwn w3 w.heap.size lv cs ∧ ∀ c ∈ cs, c.R.At w := by
      rcases HE.out with ⟨-, e⟩ | ⟨cs, e, -, h1, h2⟩
      · cases e
      · exact ⟨cs, e, h1, h2⟩
    obtain ⟨hfine, hlen⟩ := calls_fine HM.out ecs
    have hcat : CAt w3 lv cs := hown.cat (fun c hc => ⟨(hat c hc).fr HF3.out, hfine c hc⟩)
    have hp := pastOf_any lv cs w3 hcat hlen
    have HCS : Hd (callsX h = some cs) := ecs
    have HO : Hd (∀ w4 mb N, Fr (fun _ => False) w3 w4 → MdM w4 mb N (madeX cs) → Calls Try.prog 25 #[.agg #[lv, .map (some mb)]] w4 fun e w' => OrdR (madeX cs) cs w4 e w') := fun w4 mb N f hm =>
      order_any lv mb N cs (madeX cs) w4 ⟨hcat.fr f, hm, fun q c hq => ((hat c (madeX_mem hq)).fr HF3.out).fr f⟩ hlen
    clear hcat hat hfine hown ecs hc hlen
    go_wp2_with ((first
      | (go_at_call 24; refine hp.mono ?_; rintro _ w4 ⟨mb, N, rfl, hf4, hm⟩; have HF4 : Hd (Fr _ _ _) := hf4; have HM4 : Hd (MdM _ _ _ _) := hm; clear hf4 hm)
      | (go_at_call 25; refine (HO.out _ _ _ HF4.out HM4.out).mono ?_; rintro _ w5 ⟨lv5, ok5, rfl, hf5, hE5⟩; have HF5 : Hd (Fr _ _ _) := hf5; have HE5 : Hd (OrdE _ _ _ _ _ _) := hE5; clear hf5 hE5)))
    go_ret3
    refine ⟨_, _, _, rfl, (HF3.out.trans HF4.out).trans HF5.out, Or.inr ⟨cs, HCS.out, rfl, ?_⟩⟩
    rcases HE5.out with h1 | ⟨acc, h1, h2, h3, q0, q1⟩
    · exact Or.inl h1
    · refine Or.inr ⟨acc, h1, h2, h3, q0, ?_⟩
      have := (HF3.out.trans HF4.out).size
      rcases q1 with q1 | ⟨g', cap', cur, e1, k1, k2⟩
      · exact Or.inl q1
      · exact Or.inr ⟨g', cap', cur, e1, by omega, k2⟩
end Go.Proofs.Ytihicdbplmdjiaa
