import Derived.Test.YtihicdbplmdjiaaQA9
import Derived.Laws.Bits64b
import Derived.Laws.BitsAllLaws
namespace Go.Proofs.Ytihicdbplmdjiaa
open Go.RowKit (wrap32 wrap64)
open Go.Maps (Keyed)
set_option linter.unusedVariables false
set_option linter.unusedSimpArgs false

/-! ### what callsOf gives -/
structure COk (c : Cl) : Prop where
  fine : CFine c
  ky : In64 c.ky
  keys : ∀ x ∈ c.R.r.keys, In64 x
  kinds : c.kd = 1 ∨ c.kd = 2 ∨ c.kd = 3
structure MOk (m : Mo) : Prop where
  len : m.R.r.keys.length ≤ 1000000000000000000
  ky : In64 m.ky
  keys : ∀ x ∈ m.R.r.keys, In64 x
theorem run_fine (h : List Mo) (hm : ∀ m ∈ h, MOk m) : ∀ k s, runO h k = some s → ∀ c ∈ s.cs, COk c
  | 0, s, e => by cases e; simp
  | k + 1, s', e => by
    cases e0 : runO h k with
    | none => rw [runO_none e0 1] at e; cases e
    | some s =>
      have ih := run_fine h hm k s e0
      cases em : h[k]? with
      | none =>
        have : runO h (k + 1) = some s := by
          show (runO h k).bind _ = _
          rw [e0]; show (match h[k]? with | none => some s | some m => stepO k m s) = _; rw [em]
        rw [this] at e; cases e
        exact ih
      | some m =>
        have hmm := hm m (List.mem_of_getElem? em)
        rw [runO_step e0 em] at e
        unfold stepO at e
        split at e
        · split at e
          · next hcond =>
            cases e
            intro c hc
            rcases List.mem_append.1 hc with hc | hc
            · exact ih c hc
            · rw [List.mem_singleton.1 hc]
              refine ⟨⟨fun _ i j hj => absurd hj (by simp [begun, rv0]), by simp [begun, rv0], fun _ => rfl⟩, hmm.ky, by simp [begun, rv0], ?_⟩
              show m.kd = 1 ∨ m.kd = 2 ∨ m.kd = 3
              simp only [Bool.and_eq_true] at hcond
              have h := hcond.1.2
              unfold rightOpB at h
              simp only [Bool.or_eq_true, Bool.and_eq_true, decide_eq_true_eq] at h
              rcases h with (h | h) | h
              · exact Or.inl h
              · exact Or.inr (Or.inl h.1)
              · exact Or.inr (Or.inr h.1.1)
          · cases e
        · next i hl =>
          split at e
          · cases e
          · next c0 hc0 =>
            split at e
            · next hcond =>
              cases e
              intro c hc
              rcases List.mem_or_eq_of_mem_set hc with hc | rfl
              · exact ih c hc
              · simp only [Bool.and_eq_true] at hcond
                obtain ⟨⟨-, hs⟩, hr⟩ := hcond
                have hs2 := of_decide_eq_true hs
                have hkd : (c0.ended k m).kd = m.kd := hs2.1.symm
                have hky : (c0.ended k m).ky = m.ky := hs2.2.1.symm
                have h3 : (c0.ended k m).kd = 3 → riseB m.R.r.keys = true ∧ m.R.r.vals.length = m.R.r.keys.length := fun e3 => by
                  rw [hkd] at e3
                  unfold rightReplyB at hr
                  rw [if_pos e3] at hr
                  simp only [Bool.and_eq_true, decide_eq_true_eq] at hr
                  exact ⟨hr.2, hr.1.2.symm⟩
                exact ⟨⟨fun e3 => riseB_rises (h3 e3).1, hmm.len, fun e3 => (h3 e3).2⟩, by rw [hky]; exact hmm.ky, hmm.keys, (ih c0 (List.mem_of_getElem? hc0)).kinds⟩
            · cases e
theorem run_two (h : List Mo) : ∀ k s, runO h k = some s → 2 * s.cs.length ≤ k + s.op.length
  | 0, s, e => by cases e; simp
  | k + 1, s', e => by
    cases e0 : runO h k with
    | none => rw [runO_none e0 1] at e; cases e
    | some s =>
      have ih := run_two h k s e0
      have hok := stOk_run h k s e0
      cases em : h[k]? with
      | none =>
        have : runO h (k + 1) = some s := by
          show (runO h k).bind _ = _
          rw [e0]; show (match h[k]? with | none => some s | some m => stepO k m s) = _; rw [em]
        rw [this] at e; cases e
        omega
      | some m =>
        rw [runO_step e0 em] at e
        unfold stepO at e
        split at e
        · split at e
          · cases e
            simp only [List.length_append, List.length_cons, List.length_nil]
            omega
          · cases e
        · next i hl =>
          split at e
          · cases e
          · split at e
            · cases e
              have := filter_len hok.nodup hl
              simp only [List.length_set]
              omega
            · cases e
theorem calls_fine {h : List Mo} (hm : ∀ m ∈ h, MOk m) {cs : List Cl} (e : callsX h = some cs) : (∀ c ∈ cs, COk c) ∧ (cs.length ≤ 64) := by
  unfold callsX at e
  split at e
  · cases e
  · next hl =>
    cases e0 : runO h h.length with
    | none => rw [e0] at e; cases e
    | some s =>
      rw [e0] at e
      simp only [Option.bind_some] at e
      split at e
      · cases e
        refine ⟨run_fine h hm _ s e0, ?_⟩
        have := run_two h _ s e0
        next hop =>
        rw [hop] at this
        simp at this
        omega
      · cases e
/-- Calls as they lie. -/
def CAt (w : World) (lv : Value) (cs : List Cl) : Prop :=
  ∃ ad cap, lv = .slice ad cs.length cap ∧ (cs ≠ [] → ∃ g, ad = some ⟨g, 0, none⟩ ∧ ∀ i (hi : i < cs.length) j, j < 9 → w.cell? ⟨g, i * 9 + j, none⟩ = (c9 cs[i])[j]?) ∧ ∀ c ∈ cs, c.R.At w ∧ COk c
theorem CAt.fr {w w' : World} {lv : Value} {cs : List Cl} (h : CAt w lv cs) (f : Fr (fun _ => False) w w') : CAt w' lv cs := by
  obtain ⟨ad, cap, e, h1, h2⟩ := h
  refine ⟨ad, cap, e, fun hne => ?_, fun c hc => ⟨(h2 c hc).1.fr f, (h2 c hc).2⟩⟩
  obtain ⟨g, ea, hx⟩ := h1 hne
  refine ⟨g, ea, fun i hi j hj => (f.cell ?_ (fun e => e)).trans (hx i hi j hj)⟩
  have := hx i hi j hj
  rw [List.getElem?_eq_getElem (by exact hj)] at this
  exact cell_lt this
theorem COwn.cat {w : World} {B : Nat} {v : Value} {cs : List Cl} (h : COwn w B v cs) (hc : ∀ c ∈ cs, c.R.At w ∧ COk c) : CAt w v cs := by
  by_cases hne : cs = []
  · subst hne
    obtain ⟨ad, cap, e⟩ := h.val
    exact ⟨ad, cap, e, fun x => absurd rfl x, hc⟩
  · obtain ⟨g, cap, e, -, -, -, hx⟩ := h.cells hne
    exact ⟨_, cap, e, fun _ => ⟨g, rfl, hx⟩, hc⟩
/-- A history as it lies, with what is known of its moments. -/
def HAt2 (w : World) (hv : Value) (h : List Mo) : Prop := HAt w hv h ∧ ∀ m ∈ h, MOk m
theorem HAt2.fr {w w' : World} {hv : Value} {h : List Mo} (x : HAt2 w hv h) (f : Fr (fun _ => False) w w') : HAt2 w' hv h := ⟨x.1.fr f, x.2⟩

set_option maxHeartbeats 1000000 in
/-- Check. -/
theorem check_any (hv : Value) (h : List Mo) (w : World) (hh : HAt2 w hv h) :
    Calls Try.prog 7 #[hv] w fun e w' => e = .returned (vI (if (callsX h).isSome then 0 else 230)) ∧ Fr (fun _ => False) w w' := by
  have hc := callsOf_any hv h w hh.1
  obtain ⟨E, hE⟩ : ∃ E : Int, E = if (callsX h).isSome then 0 else 230 := ⟨_, rfl⟩
  have HX : Hd (E = if (callsX h).isSome then 0 else 230) := hE
  rw [← hE]
  clear hh hE
  go_enter Try.func7, Try.ntmps7
  go_wp2_with (go_at_call 23; refine hc.mono ?_; rintro _ w3 ⟨lv, ok, rfl, hf3, hE⟩; have HF3 : Hd _ := hf3; have HE : Hd (CsE _ _ _ _ _) := hE; clear hf3 hE; cases ok)
  · go_ret
    refine ⟨?_, HF3.out⟩
    rcases HE.out with ⟨e, -⟩ | ⟨cs, -, e, -⟩
    · rw [HX.out, e]; rfl
    · cases e
  · go_ret
    refine ⟨?_, HF3.out⟩
    rcases HE.out with ⟨-, e⟩ | ⟨cs, e, -⟩
    · cases e
    · rw [HX.out, e]; rfl
end Go.Proofs.Ytihicdbplmdjiaa

namespace Go.Proofs.Ytihicdbplmdjiaa
open Go.RowKit (wrap32 wrap64)
open Go.Maps (Keyed)
set_option linter.unusedVariables false
set_option linter.unusedSimpArgs false

/-! ### by key: the Publish that gave it its value -/
abbrev Mk := Int → Option Cl
def madeX (cs : List Cl) : Mk := cs.foldl (fun f c => if makesB c then (fun q => if q = c.ky then some c else f q) else f) (fun _ => none)
theorem madeX_snoc (cs : List Cl) (c : Cl) : madeX (cs ++ [c]) = if makesB c then (fun q => if q = c.ky then some c else madeX cs q) else madeX cs := by
  unfold madeX; rw [List.foldl_append]; rfl
theorem und52 : Try.prog.underlying 52 = some (.map 3 75) := by kernel_rfl
def zeroC : Value := .agg #[vI 0, vI 0, vI 0, vI 0, .string ⟨#[]⟩, .bool false, .string ⟨#[]⟩, .slice none 0 0, .slice none 0 0]
theorem zero75 (w : World) : (zeroValue 75).run Try.prog w = .ok zeroC w := by kernel_rfl
def Rv (v : Value) : Option (DataW Value × List MemPlace) := some (.held v, [])
def MdM (w : World) (mb N : Nat) (f : Mk) : Prop :=
  ∃ D : DataW Value, w.ownsMap Try.prog 3 Rv mb N D ∧ (∀ q, Maps.has D (.int .i64 q) = (f q).isSome) ∧ (∀ q c, f q = some c → D.atKey (.int .i64 q) (.held zeroC) = .held c.V)
theorem MdM.fr {S : Nat → Prop} {w w' : World} {mb N : Nat} {f : Mk} (h : MdM w mb N f) (x : Fr S w w') (hS : ¬ S mb) : MdM w' mb N f := by
  obtain ⟨D, h1, h2⟩ := h
  exact ⟨D, ownsMap_fr h1 x hS, h2⟩
theorem MdM.lt {w : World} {mb N : Nat} {f : Mk} (h : MdM w mb N f) : mb < w.heap.size := by obtain ⟨D, h1, h2⟩ := h; exact h1.lt
theorem MdM.made (w : World) : MdM (w.alloc (.map #[] 0)) w.heap.size 0 (fun _ => none) := ⟨.map [], World.ownsMap_made w _ _ _, fun q => by simp [Maps.has], fun q i h => by simp at h⟩
theorem Rv_inv {v x : Value} {ps : List MemPlace} (h : Rv v = some (.held x, ps)) : v = x := by
  unfold Rv at h
  simp only [Option.some.injEq, Prod.mk.injEq, DataW.held.injEq] at h
  exact h.1
theorem MdM.in_ {w : World} {mb N : Nat} {f : Mk} (h : MdM w mb N f) {q : Int} {c : Cl} (hq : In64 q) (hi : f q = some c) :
    (Instr.lookup 52 (.map (some mb)) (vI q) true).run Try.prog w = .ok (.tuple #[c.V, .bool true]) w := by
  obtain ⟨D, h1, h2, h3⟩ := h
  obtain ⟨v, ps, hrun, hv⟩ := h1.look_ok keyed3 und52 (zero75 w) (zd := .held zeroC) (zp := []) rfl (Maps.keyOf_int_mk und3i (wf_int hq))
  rw [h3 q c hi] at hv
  rw [hrun, h2, hi, Rv_inv hv]
  rfl
theorem MdM.out {w : World} {mb N : Nat} {f : Mk} (h : MdM w mb N f) {q : Int} (hq : In64 q) (hi : f q = none) :
    (Instr.lookup 52 (.map (some mb)) (vI q) true).run Try.prog w = .ok (.tuple #[zeroC, .bool false]) w := by
  obtain ⟨D, h1, h2, h3⟩ := h
  obtain ⟨v, ps, hrun, hv⟩ := h1.look_ok keyed3 und52 (zero75 w) (zd := .held zeroC) (zp := []) rfl (Maps.keyOf_int_mk und3i (wf_int hq))
  have hh : Maps.has D (.int .i64 q) = false := by rw [h2, hi]; rfl
  rw [Maps.atKey_of_not_has hh] at hv
  rw [hrun, hh, Rv_inv hv]
theorem MdM.put {w : World} {mb N : Nat} {f : Mk} (h : MdM w mb N f) (c : Cl) (hq : In64 c.ky) (hN : N ≤ 1000000) :
    ∃ w', (Instr.mapUpdate 52 (.map (some mb)) (vI c.ky) c.V).run Try.prog w = .ok () w' ∧ MdM w' mb (N + 1) (fun q => if q = c.ky then some c else f q) ∧ Fr (fun k => k = mb) w w' := by
  obtain ⟨D, h1, h2, h3⟩ := h
  obtain ⟨w', hrun, hown, hg⟩ := h1.store keyed3 und52 (by unfold maxLen; omega) (Maps.keyOf_int_mk und3i (wf_int hq)) (show Rv c.V = some (.held c.V, []) from rfl)
  refine ⟨w', hrun, ⟨_, hown, fun x => ?_, fun x d hx => ?_⟩, turned_fr hg⟩
  · by_cases e : x = c.ky
    · subst e
      rw [Maps.has_put_same h1.isMap (show WideAt.IsKeyLit (.int .i64 c.ky) from trivial)]
      simp
    · rw [Maps.has_put_other (lit_ne e), h2]
      simp [e]
  · by_cases e : x = c.ky
    · subst e
      simp at hx
      subst hx
      exact Maps.atKey_put_same h1.isMap (show WideAt.IsKeyLit (.int .i64 c.ky) from trivial) _ _
    · simp [e] at hx
      rw [Maps.atKey_put_other (lit_ne e)]
      exact h3 x d hx

theorem results_cell {fn : Func} {p : Tmp} {ty : TypeId} (h : fn.results = #[.cell p ty]) (tmps : Array Value) (P : Program) (w : World) :
    (results fn tmps).run P w = ((asAddr (tmps.getD p undef)).run P w).andThen fun a w₁ => (loadVar ty a).run P w₁ := by
  simp only [results, h]
  simp [Sem.run_bind, Result.andThen]
set_option maxRecDepth 100000 in
set_option maxHeartbeats 4000000 in
/-- pastOf. -/
theorem pastOf_any (lv : Value) (cs : List Cl) (w : World) (hc : CAt w lv cs) (hl : cs.length ≤ 64) :
    Calls Try.prog 24 #[lv] w fun e w' => ∃ mb N, e = .returned (.agg #[lv, .map (some mb)]) ∧ Fr (fun _ => False) w w' ∧ MdM w' mb N (madeX cs) := by
  have hmm := @Go.RowKit.run_makeMap Try.prog
  obtain ⟨ad, cap, rfl, h1, h2⟩ := hc
  have HX : Hd (∀ i (hi : i < cs.length), ∃ g, ad = some ⟨g, 0, none⟩ ∧ ∀ W, Fr (fun _ => False) w W → ∀ j, j < 9 → W.cell? ⟨g, i * 9 + j, none⟩ = (c9 cs[i])[j]?) := fun i hi => by
    obtain ⟨g, ea, hx⟩ := h1 (fun e => by rw [e] at hi; simp at hi)
    refine ⟨g, ea, fun W f j hj => (f.cell ?_ (fun e => e)).trans (hx i hi j hj)⟩
    have := hx i hi j hj
    rw [List.getElem?_eq_getElem (by exact hj)] at this
    exact cell_lt this
  have HC : Hd (∀ c ∈ cs, c.R.At w ∧ COk c) := h2
  obtain ⟨n, en⟩ : ∃ n, n = cs.length := ⟨_, rfl⟩
  have EN : Hd (n = cs.length) := en
  rw [← en] at hl ⊢
  clear h1 h2 en
  go_enter Try.func24, Try.ntmps24
  go_upto_region 2 with fail
  obtain ⟨W0, eW⟩ : ∃ W0, W0 = (((w.alloc (Obj.cells #[.slice none 0 0, .map none] 54)).alloc (Obj.map #[] 0)).alloc (Obj.cells #[.slice ad n cap, .map (some (w.heap.size + 1))] 54)) := ⟨_, rfl⟩
  have hW : Fr (fun _ => False) w W0 ∧ MdM W0 (w.heap.size + 1) 0 (fun _ => none) ∧ W0.heap[w.heap.size]? = some (Obj.cells #[.slice none 0 0, .map none] 54) ∧ W0.heap[w.heap.size + 1 + 1]? = some (Obj.cells #[.slice ad n cap, .map (some (w.heap.size + 1))] 54) := by
    rw [eW]
    have z1 : (w.alloc (Obj.cells #[.slice none 0 0, .map none] 54)).heap.size = w.heap.size + 1 := by simp
    have z2 : ((w.alloc (Obj.cells #[.slice none 0 0, .map none] 54)).alloc (Obj.map #[] 0)).heap.size = w.heap.size + 1 + 1 := by simp
    refine ⟨((((Fr.refl _ w).alloc _).alloc _).alloc _), ?_, ?_, ?_⟩
    · have := MdM.made (w.alloc (Obj.cells #[.slice none 0 0, .map none] 54))
      rw [z1] at this
      exact this.fr ((Fr.refl (fun _ => False) _).alloc _) (fun e => e)
    · rw [Go.RowKit.Below.heap_alloc _ _ _ (by rw [z2]; omega), Go.RowKit.Below.heap_alloc _ _ _ (by rw [z1]; omega)]
      exact heap_alloc_last w _
    · have := heap_alloc_last ((w.alloc (Obj.cells #[.slice none 0 0, .map none] 54)).alloc (Obj.map #[] 0)) (Obj.cells #[.slice ad n cap, .map (some (w.heap.size + 1))] 54)
      rw [z2] at this
      exact this
  rw [← eW]
  obtain ⟨b2, eb⟩ : ∃ b2, b2 = w.heap.size := ⟨_, rfl⟩
  rw [← eb] at hW ⊢
  have HW : Hd _ := hW
  have EB : Hd (b2 = w.heap.size) := eb
  clear hW eW eb hmm
  go_wp2_with fail
  go_loopw [11] (fun v wr => ∃ k : Nat, v = vI k ∧ k ≤ n ∧ Hd (Fr (fun _ => False) w wr ∧ (∃ N, N ≤ k ∧ MdM wr (b2 + 1) N (madeX (cs.take k))) ∧ wr.heap[b2]? = some (Obj.cells #[.slice none 0 0, .map none] 54) ∧ wr.heap[b2 + 1 + 1]? = some (Obj.cells #[.slice ad n cap, .map (some (b2 + 1))] 54))) (fun v _ => match v with | .int _ q => n - q.toNat | _ => 0)
  case atStart => exact ⟨0, rfl, by omega, HW.out.1, ⟨0, by omega, HW.out.2.1⟩, HW.out.2.2.1, HW.out.2.2.2⟩
  case round =>
    clear HW
    obtain ⟨k, rfl, hk, HR⟩ := hrel
    by_cases hlt : k < n
    · have k0 : (0 : Int) ≤ k := by omega
      have k1 : (k : Int) < n := by omega
      have hkl : k < cs.length := by rw [← EN.out]; exact hlt
      obtain ⟨g, rfl, hc0⟩ := HX.out k hkl
      have hc := hc0 wr HR.out.1
      have et : madeX (cs.take (k + 1)) = if makesB cs[k] then (fun q => if q = cs[k].ky then some cs[k] else madeX (cs.take k) q) else madeX (cs.take k) := by
        rw [List.take_add_one, List.getElem?_eq_getElem hkl]; exact madeX_snoc _ _
      have hck := HC.out cs[k] (List.getElem_mem hkl)
      obtain ⟨c, ec⟩ : ∃ c, c = cs[k] := ⟨_, rfl⟩
      rw [← ec] at hc et hck
      have HCK : Hd (c.R.At w ∧ COk c) := hck
      have ET : Hd _ := et
      obtain ⟨ka, kc, ek⟩ := row_slice hck.1.1
      obtain ⟨va, vc, ev⟩ := row_slice hck.1.2
      have HMK : Hd (∀ W, Calls Try.prog 40 #[c.V] W fun e w' => e = .returned (.bool (makesB c)) ∧ Fr (fun _ => False) W w') := fun W => makes_any c W
      obtain ⟨N, hN, hM⟩ := HR.out.2.1
      have hput := fun W (f : Fr (fun _ => False) wr W) => (hM.fr f (fun e => e)).put c hck.2.ky (by omega)
      have HP : Hd (∀ W, Fr (fun _ => False) wr W → ∃ w', (Instr.mapUpdate 52 (.map (some (b2 + 1))) (vI c.ky) c.V).run Try.prog W = .ok () w' ∧ MdM w' (b2 + 1) (N + 1) (fun q => if q = c.ky then some c else madeX (cs.take k) q) ∧ Fr (fun k => k = b2 + 1) W w') := hput
      have HN : Hd (N ≤ k ∧ MdM wr (b2 + 1) N (madeX (cs.take k))) := ⟨hN, hM⟩
      obtain ⟨M, hMk⟩ : ∃ M, M = makesB c := ⟨_, rfl⟩
      have EM : Hd (M = makesB c) := hMk
      rw [← hMk] at HMK
      clear hMk et hck ec hc0 hkl hput hN hM
      unfold c9 at hc
      have x0 := hc 0 (by omega)
      have x1 := hc 1 (by omega)
      have x2 := hc 2 (by omega)
      have x3 := hc 3 (by omega)
      have x4 := hc 4 (by omega)
      have x5 := hc 5 (by omega)
      have x6 := hc 6 (by omega)
      have x7 := hc 7 (by omega)
      have x8 := hc 8 (by omega)
      simp only [List.getElem?_cons_zero, List.getElem?_cons_succ, Nat.add_zero] at x0 x1 x2 x3 x4 x5 x6 x7 x8
      clear hc
      unfold Cl.V c9 at HMK HP
      obtain ⟨b, en', kd, ky, v, ⟨⟨ok, val, ks, vs⟩, kv, vv⟩⟩ := c
      simp only [List.length_map] at x0 x1 x2 x3 x4 x5 x6 x7 x8 ek ev HMK HP
      subst ek ev
      have H3 : Hd (∀ W S, Fr S wr W → ¬ S b2 → ¬ S (b2 + 1 + 1) → W.heap[b2]? = some (Obj.cells #[.slice none 0 0, .map none] 54) ∧ W.heap[b2 + 1 + 1]? = some (Obj.cells #[.slice (some ⟨g, 0, none⟩) n cap, .map (some (b2 + 1))] 54)) := fun W S f h1 h2 =>
        ⟨(f.block _ (heap_lt HR.out.2.2.1) h1).trans HR.out.2.2.1, (f.block _ (heap_lt HR.out.2.2.2) h2).trans HR.out.2.2.2⟩
      cases M
      · go_wp2_with (go_at_call 40; refine (HMK.out _).mono ?_; rintro _ w3 ⟨rfl, hf3⟩; have HF3 : Hd _ := hf3; clear hf3)
        have hf : Fr (fun _ => False) wr w3 := ((Fr.refl _ wr).alloc _).trans HF3.out
        obtain ⟨q1, q2⟩ := H3.out w3 _ hf (fun e => e) (fun e => e)
        refine ⟨⟨k + 1, by simp, by omega, HR.out.1.trans hf, ⟨N, by have := HN.out.1; omega, ?_⟩, q1, q2⟩, by simp; omega⟩
        rw [show madeX (cs.take (k + 1)) = _ from ET.out, ← EM.out]
        exact HN.out.2.fr hf (fun e => e)
      · go_upto_region 6 with (go_at_call 40; refine (HMK.out _).mono ?_; rintro _ w3 ⟨rfl, hf3⟩; have HF3 : Hd _ := hf3; clear hf3)
        have hf : Fr (fun _ => False) wr w3 := ((Fr.refl _ wr).alloc _).trans HF3.out
        have hbx : w3.heap[wr.heap.size]? = _ := (HF3.out.block _ (by simp) (fun e => e)).trans (heap_alloc_last wr _)
        have hpm : wr.heap.size < w3.heap.size := heap_lt hbx
        have HLT : Hd (b2 + 1 < wr.heap.size ∧ b2 < wr.heap.size ∧ b2 + 1 + 1 < wr.heap.size) := ⟨HN.out.2.lt, heap_lt HR.out.2.2.1, heap_lt HR.out.2.2.2⟩
        obtain ⟨q1, q2⟩ := H3.out w3 _ hf (fun e => e) (fun e => e)
        obtain ⟨w5, hup, hM5, hf5⟩ := HP.out w3 hf
        have HW5 : Hd (Fr (fun k => k = b2 + 1) w3 w5 ∧ MdM w5 (b2 + 1) (N + 1) (fun q => if q = ky then some ⟨b, en', kd, ky, v, ⟨⟨ok, val, ks, vs⟩, .slice ka ks.length kc, .slice va vs.length vc⟩⟩ else madeX (cs.take k) q) ∧ Fr (fun _ => False) wr w3) := ⟨hf5, by simpa using hM5, hf⟩
        obtain ⟨pm, epm⟩ : ∃ pm, pm = wr.heap.size := ⟨_, rfl⟩
        rw [← epm] at hbx ⊢
        obtain ⟨y0, y1, y2, y3, y4, y5, y6, y7, y8⟩ := nine hbx
        have z1 := cell_of q2 1
        simp only [List.getElem?_toArray, List.getElem?_cons_zero, List.getElem?_cons_succ] at z1
        clear hbx hpm q1 q2 hM5 hf5 hf epm HF3 HP HMK
        go_wp2_with fail
        have hf : Fr (fun _ => False) w w5 := (HR.out.1.trans HW5.out.2.2).under HW5.out.1 (fun j e => by have := EB.out; omega)
        have hf2 : Fr (fun k => k = b2 + 1) wr w5 := (HW5.out.2.2.mono (fun _ _ e => e.elim)).trans HW5.out.1
        obtain ⟨q1, q2⟩ := H3.out w5 _ hf2 (by omega) (by omega)
        refine ⟨⟨k + 1, by simp, by omega, hf, ⟨N + 1, by have := HN.out.1; omega, ?_⟩, q1, q2⟩, by simp; omega⟩
        rw [show madeX (cs.take (k + 1)) = _ from ET.out, ← EM.out]
        exact HW5.out.2.1
    · have hkn : k = cs.length := by have := EN.out; omega
      have z0 := cell_of HR.out.2.2.2 0
      have z1 := cell_of HR.out.2.2.2 1
      have y0 := cell_of HR.out.2.2.1 0
      have y1 := cell_of HR.out.2.2.1 1
      have f0 := frozen_of HR.out.2.2.1 0
      have f1 := frozen_of HR.out.2.2.1 1
      simp only [List.getElem?_toArray, List.getElem?_cons_zero, List.getElem?_cons_succ] at z0 z1 y0 y1
      have HE : Hd (∃ N, MdM wr (b2 + 1) N (madeX cs)) := by
        obtain ⟨N, -, h⟩ := HR.out.2.1
        rw [hkn, List.take_of_length_le (Nat.le_refl _)] at h
        exact ⟨N, h⟩
      clear hkn
      go_wp2_with fail
      have hb : ((wr.setCell ⟨b2, 0, none⟩ (.slice ad n cap)).setCell ⟨b2, 1, none⟩ (.map (some (b2 + 1)))).heap[b2]? = some (Obj.cells #[.slice ad n cap, .map (some (b2 + 1))] 54) := set_of (set_of HR.out.2.2.1 0 _) 1 _
      have hf : Fr (fun k => k = b2) wr ((wr.setCell ⟨b2, 0, none⟩ (.slice ad n cap)).setCell ⟨b2, 1, none⟩ (.map (some (b2 + 1)))) := by
        refine Fr.setCell ?_ _ _ (Or.inl rfl)
        refine Fr.setCell ?_ _ _ (Or.inl rfl)
        exact Fr.refl _ _
      obtain ⟨W, eW⟩ : ∃ W, W = ((wr.setCell ⟨b2, 0, none⟩ (.slice ad n cap)).setCell ⟨b2, 1, none⟩ (.map (some (b2 + 1)))) := ⟨_, rfl⟩
      rw [← eW] at hb hf ⊢
      have u0 : W.cell? ⟨b2, 0, none⟩ = some (.slice ad n cap) := cell_of hb 0
      have u1 : W.cell? ⟨b2, 1, none⟩ = some (.map (some (b2 + 1))) := cell_of hb 1
      obtain ⟨N, hN⟩ := HE.out
      refine bodyPost_ret (v := .agg #[.slice ad n cap, .map (some (b2 + 1))]) ?_ rfl ⟨_, N, rfl, HR.out.1.under hf (fun j e => by have := EB.out; omega), hN.fr hf (by omega)⟩
      rw [results_cell (p := 2) (ty := 54) Try.results24]
      simp [go_sem, u0, u1]
end Go.Proofs.Ytihicdbplmdjiaa

namespace Go.Proofs.Ytihicdbplmdjiaa
open Go.RowKit (wrap32 wrap64)
set_option linter.unusedVariables false
set_option linter.unusedSimpArgs false

/-! ### sets of calls -/
abbrev vS (n : Nat) : Value := .int .u64 (n : Int)
theorem two_pow_lt {b : Nat} (hb : b < 64) : 2 ^ b < 18446744073709551616 := Nat.pow_lt_pow_right (a := 2) (by omega) hb
theorem wrap_pow {b : Nat} (hb : b < 64) : IntKind.u64.wrap (2 ^ b) = ((2 ^ b : Nat) : Int) := by
  have := two_pow_lt hb
  have e : (2 : Int) ^ b = ((2 ^ b : Nat) : Int) := by simp
  rw [IntKind.wrap_u64, e]
  generalize 2 ^ b = p at *
  omega
def dropS (s i : Nat) : Nat := s &&& (18446744073709551615 - 2 ^ i)
theorem with_any (s i : Nat) (w : World) (hs : s < 18446744073709551616) (hi : i < 64) : Calls Try.prog 58 #[vS s, vI i] w fun e w' => e = .returned (vS (s ||| 2 ^ i)) ∧ w' = w := by
  have i0 : (0 : Int) ≤ i := by omega
  have e1 : bits .or .u64 (s : Int) (IntKind.u64.wrap (2 ^ i)) = ((s ||| 2 ^ i : Nat) : Int) := by rw [wrap_pow hi]; exact bits_or_u64_nat _ _ hs (two_pow_lt hi)
  go_enter Try.func58, Try.ntmps58
  go_wp2_with fail
  go_ret
  exact ⟨by simp [e1], rfl⟩
theorem has_any (s i : Nat) (w : World) (hs : s < 18446744073709551616) (hi : i < 64) : Calls Try.prog 59 #[vS s, vI i] w fun e w' => e = .returned (.bool (s.testBit i)) ∧ w' = w := by
  have i0 : (0 : Int) ≤ i := by omega
  have e0 : (s : Int) / 2 ^ i = ((s / 2 ^ i : Nat) : Int) := by simp
  have e1 : bits .and .u64 ((s : Int) / 2 ^ i) 1 = ((s / 2 ^ i &&& 1 : Nat) : Int) := by
    rw [e0]
    exact bits_and_u64_nat _ 1 (Nat.lt_of_le_of_lt (Nat.div_le_self _ _) hs) (by decide)
  have h2 : s / 2 ^ i &&& 1 = s / 2 ^ i % 2 := Nat.and_one_is_mod _
  have e2 : (bits .and .u64 ((s : Int) / 2 ^ i) 1 == 1) = s.testBit i := by
    rw [e1, h2, Nat.testBit_eq_decide_div_mod_eq]
    generalize s / 2 ^ i % 2 = q
    by_cases hq : q = 1
    · subst hq; rfl
    · have h3 : ((q : Int) == 1) = false := by
        rw [beq_eq_false_iff_ne]; omega
      rw [h3]
      exact (decide_eq_false hq).symm
  obtain ⟨B, hB⟩ : ∃ B, B = s.testBit i := ⟨_, rfl⟩
  rw [← hB] at e2 ⊢
  clear hB h2 e1 e0
  go_enter Try.func59, Try.ntmps59
  go_wp2_with fail
  go_ret
  exact ⟨rfl, rfl⟩
theorem without_any (s i : Nat) (w : World) (hs : s < 18446744073709551616) (hi : i < 64) : Calls Try.prog 45 #[vS s, vI i] w fun e w' => e = .returned (vS (dropS s i)) ∧ w' = w := by
  have i0 : (0 : Int) ≤ i := by omega
  have e1 : bits .andNot .u64 (s : Int) (IntKind.u64.wrap (2 ^ i)) = ((dropS s i : Nat) : Int) := by rw [wrap_pow hi]; exact u64_andNot_nat _ _ hs (two_pow_lt hi)
  obtain ⟨d, hd⟩ : ∃ d, d = dropS s i := ⟨_, rfl⟩
  rw [← hd] at e1 ⊢
  clear hd
  go_enter Try.func45, Try.ntmps45
  go_wp2_with fail
  go_ret
  exact ⟨rfl, rfl⟩
theorem firsts_any (i : Nat) (w : World) (hi : i ≤ 64) : Calls Try.prog 43 #[vI i] w fun e w' => e = .returned (vS (2 ^ i - 1)) ∧ w' = w := by
  have i0 : (0 : Int) ≤ i := by omega
  have e1 : IntKind.u64.wrap (IntKind.u64.wrap (2 ^ i) - 1) = ((2 ^ i - 1 : Nat) : Int) := by
    rw [IntKind.wrap_u64, IntKind.wrap_u64]
    have e : (2 : Int) ^ i = ((2 ^ i : Nat) : Int) := by simp
    rw [e]
    rcases Nat.lt_or_ge i 64 with h | h
    · have h1 := two_pow_lt h
      have h2 := Nat.two_pow_pos i
      generalize 2 ^ i = p at *
      omega
    · have : i = 64 := by omega
      subst this
      decide
  obtain ⟨d, hd⟩ : ∃ d, d = 2 ^ i - 1 := ⟨_, rfl⟩
  rw [← hd] at e1 ⊢
  clear hd
  go_enter Try.func43, Try.ntmps43
  go_wp2_with fail
  go_ret
  exact ⟨rfl, rfl⟩
theorem firsts_bit (n j : Nat) : (2 ^ n - 1).testBit j = decide (j < n) := Nat.testBit_two_pow_sub_one n j
theorem firsts_lt {n : Nat} (h : n ≤ 64) : 2 ^ n - 1 < 18446744073709551616 := by
  have : 2 ^ n ≤ 2 ^ 64 := Nat.pow_le_pow_right (by omega) h
  have h2 := Nat.two_pow_pos n
  have e : (2 : Nat) ^ 64 = 18446744073709551616 := by decide
  omega
theorem dropS_lt {s : Nat} (i : Nat) (hs : s < 18446744073709551616) : dropS s i < 18446744073709551616 := Nat.lt_of_le_of_lt Nat.and_le_left hs
theorem dropS_bit {s i : Nat} (j : Nat) (hs : s < 18446744073709551616) (hi : i < 64) : (dropS s i).testBit j = (s.testBit j && !decide (j = i)) := by
  unfold dropS
  rw [Nat.testBit_and]
  rcases Nat.lt_or_ge j 64 with h | h
  · have e : 18446744073709551615 - 2 ^ i = 2 ^ 64 - (2 ^ i + 1) := by omega
    rw [e, Nat.testBit_two_pow_sub_succ (two_pow_lt hi), Nat.testBit_two_pow]
    simp [h, eq_comm]
  · have : s.testBit j = false := Nat.testBit_lt_two_pow (Nat.lt_of_lt_of_le (show s < 2 ^ 64 from hs) (Nat.pow_le_pow_right (by omega) h))
    rw [this]; rfl
theorem with_bit (s i j : Nat) : (s ||| 2 ^ i).testBit j = (s.testBit j || decide (j = i)) := by
  rw [Nat.testBit_or, Nat.testBit_two_pow]
  simp [eq_comm]
theorem with_lt {s i : Nat} (hs : s < 18446744073709551616) (hi : i < 64) : s ||| 2 ^ i < 18446744073709551616 := Nat.or_lt_two_pow (n := 64) hs (two_pow_lt hi)
end Go.Proofs.Ytihicdbplmdjiaa
