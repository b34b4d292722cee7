import Derived.Test.YtihicdbplmdjiaaGreatQA9
import Derived.Laws.Bits64b
import Derived.Laws.BitsAllLaws
import Derived.Test.YtihicdbplmdjiaaGreatQH0J
set_option linter.unusedVariables false
set_option linter.unusedSimpArgs false
namespace Go.Proofs.YtihicdbplmdjiaaGreat
open Go.RowKit (wrap32 wrap64)
open Go.Maps (Keyed)

/-! ### what callsOf gives -/
structure COk (c : Cl) : Prop where
  fine : CFine c
  ky : In64 c.ky
  keys : ∀ x ∈ c.R.r.keys, In64 x
  kinds : c.kd = 1 ∨ c.kd = 2 ∨ c.kd = 3
structure MOk (m : Mo) : Prop where
  len : m.R.r.keys.length ≤ 1000000000000000000
  ky : In64 m.ky
  keys : ∀ x ∈ m.R.r.keys, In64 x
theorem run_fine (h : List Mo) (hm : ∀ m ∈ h, MOk m) : ∀ k s, runO h k = some s → ∀ c ∈ s.cs, COk c
  | 0, s, e => by cases e; simp
  | k + 1, s', e => by
    cases e0 : runO h k with
    | none => rw [runO_none e0 1] at e; cases e
    | some s =>
      have ih := run_fine h hm k s e0
      cases em : h[k]? with
      | none =>
        have : runO h (k + 1) = some s := by
          show (runO h k).bind _ = _
          rw [e0]; show (match h[k]? with | none => some s | some m => stepO k m s) = _; rw [em]
        rw [this] at e; cases e
        exact ih
      | some m =>
        have hmm := hm m (List.mem_of_getElem? em)
        rw [runO_step e0 em] at e
        unfold stepO at e
        split at e
        · split at e
          · next hcond =>
            cases e
            intro c hc
            rcases List.mem_append.1 hc with hc | hc
            · exact ih c hc
            · rw [List.mem_singleton.1 hc]
              refine ⟨⟨fun _ i j hj => absurd hj (by simp [begun, rv0]), by simp [begun, rv0], fun _ => rfl⟩, hmm.ky, by simp [begun, rv0], ?_⟩
              show m.kd = 1 ∨ m.kd = 2 ∨ m.kd = 3
              simp only [Bool.and_eq_true] at hcond
              have h := hcond.1.2
              unfold rightOpB at h
              simp only [Bool.or_eq_true, Bool.and_eq_true, decide_eq_true_eq] at h
              rcases h with (h | h) | h
              · exact Or.inl h
              · exact Or.inr (Or.inl h.1)
              · exact Or.inr (Or.inr h.1.1)
          · cases e
        · next i hl =>
          split at e
          · cases e
          · next c0 hc0 =>
            split at e
            · next hcond =>
              cases e
              intro c hc
              rcases List.mem_or_eq_of_mem_set hc with hc | rfl
              · exact ih c hc
              · simp only [Bool.and_eq_true] at hcond
                obtain ⟨⟨-, hs⟩, hr⟩ := hcond
                have hs2 := of_decide_eq_true hs
                have hkd : (c0.ended k m).kd = m.kd := hs2.1.symm
                have hky : (c0.ended k m).ky = m.ky := hs2.2.1.symm
                have h3 : (c0.ended k m).kd = 3 → riseB m.R.r.keys = true ∧ m.R.r.vals.length = m.R.r.keys.length := fun e3 => by
                  rw [hkd] at e3
                  unfold rightReplyB at hr
                  rw [if_pos e3] at hr
                  simp only [Bool.and_eq_true, decide_eq_true_eq] at hr
                  exact ⟨hr.2, hr.1.2.symm⟩
                exact ⟨⟨fun e3 => riseB_rises (h3 e3).1, hmm.len, fun e3 => (h3 e3).2⟩, by rw [hky]; exact hmm.ky, hmm.keys, (ih c0 (List.mem_of_getElem? hc0)).kinds⟩
            · cases e
theorem run_two (h : List Mo) : ∀ k s, runO h k = some s → 2 * s.cs.length ≤ k + s.op.length
  | 0, s, e => by cases e; simp
  | k + 1, s', e => by
    cases e0 : runO h k with
    | none => rw [runO_none e0 1] at e; cases e
    | some s =>
      have ih := run_two h k s e0
      have hok := stOk_run h k s e0
      cases em : h[k]? with
      | none =>
        have : runO h (k + 1) = some s := by
          show (runO h k).bind _ = _
          rw [e0]; show (match h[k]? with | none => some s | some m => stepO k m s) = _; rw [em]
        rw [this] at e; cases e
        omega
      | some m =>
        rw [runO_step e0 em] at e
        unfold stepO at e
        split at e
        · split at e
          · cases e
            simp only [List.length_append, List.length_cons, List.length_nil]
            omega
          · cases e
        · next i hl =>
          split at e
          · cases e
          · split at e
            · cases e
              have := filter_len hok.nodup hl
              simp only [List.length_set]
              omega
            · cases e
theorem calls_fine {h : List Mo} (hm : ∀ m ∈ h, MOk m) {cs : List Cl} (e : callsX h = some cs) : (∀ c ∈ cs, COk c) ∧ (cs.length ≤ 64) := by
  unfold callsX at e
  split at e
  · cases e
  · next hl =>
    cases e0 : runO h h.length with
    | none => rw [e0] at e; cases e
    | some s =>
      rw [e0] at e
      simp only [Option.bind_some] at e
      split at e
      · cases e
        refine ⟨run_fine h hm _ s e0, ?_⟩
        have := run_two h _ s e0
        next hop =>
        rw [hop] at this
        simp at this
        omega
      · cases e
/-- Calls as they lie. -/
def CAt (w : World) (lv : Value) (cs : List Cl) : Prop :=
  ∃ ad cap, lv = .slice ad cs.length cap ∧ (cs ≠ [] → ∃ g, ad = some ⟨g, 0, none⟩ ∧ ∀ i (hi : i < cs.length) j, j < 9 → w.cell? ⟨g, i * 9 + j, none⟩ = (c9 cs[i])[j]?) ∧ ∀ c ∈ cs, c.R.At w ∧ COk c
theorem CAt.fr {w w' : World} {lv : Value} {cs : List Cl} (h : CAt w lv cs) (f : Fr (fun _ => False) w w') : CAt w' lv cs := by
  obtain ⟨ad, cap, e, h1, h2⟩ := h
  refine ⟨ad, cap, e, fun hne => ?_, fun c hc => ⟨(h2 c hc).1.fr f, (h2 c hc).2⟩⟩
  obtain ⟨g, ea, hx⟩ := h1 hne
  refine ⟨g, ea, fun i hi j hj => (f.cell ?_ (fun e => e)).trans (hx i hi j hj)⟩
  have := hx i hi j hj
  rw [List.getElem?_eq_getElem (by exact hj)] at this
  exact cell_lt this
theorem COwn.cat {w : World} {B : Nat} {v : Value} {cs : List Cl} (h : COwn w B v cs) (hc : ∀ c ∈ cs, c.R.At w ∧ COk c) : CAt w v cs := by
  by_cases hne : cs = []
  · subst hne
    obtain ⟨ad, cap, e⟩ := h.val
    exact ⟨ad, cap, e, fun x => absurd rfl x, hc⟩
  · obtain ⟨g, cap, e, -, -, -, hx⟩ := h.cells hne
    exact ⟨_, cap, e, fun _ => ⟨g, rfl, hx⟩, hc⟩
/-- A history as it lies, with what is known of its moments. -/
def HAt2 (w : World) (hv : Value) (h : List Mo) : Prop := HAt w hv h ∧ ∀ m ∈ h, MOk m
theorem HAt2.fr {w w' : World} {hv : Value} {h : List Mo} (x : HAt2 w hv h) (f : Fr (fun _ => False) w w') : HAt2 w' hv h := ⟨x.1.fr f, x.2⟩


/-! ### by key: the Publish that gave it its value -/
abbrev Mk := Int → Option Cl
def madeX (cs : List Cl) : Mk := cs.foldl (fun f c => if makesB c then (fun q => if q = c.ky then some c else f q) else f) (fun _ => none)
theorem madeX_snoc (cs : List Cl) (c : Cl) : madeX (cs ++ [c]) = if makesB c then (fun q => if q = c.ky then some c else madeX cs q) else madeX cs := by
  unfold madeX; rw [List.foldl_append]; rfl
theorem und52 : Tryz.prog.underlying 57 = some (.map 3 87) := by kernel_rfl
def zeroC : Value := .agg #[vI 0, vI 0, vI 0, vI 0, .string ⟨#[]⟩, .bool false, .string ⟨#[]⟩, .slice none 0 0, .slice none 0 0]
theorem zero75 (w : World) : (zeroValue 87).run Tryz.prog w = .ok zeroC w := by kernel_rfl
def Rv (v : Value) : Option (DataW Value × List MemPlace) := some (.held v, [])
def MdM (w : World) (mb N : Nat) (f : Mk) : Prop :=
  ∃ D : DataW Value, w.ownsMap Tryz.prog 3 Rv mb N D ∧ (∀ q, Maps.has D (.int .i64 q) = (f q).isSome) ∧ (∀ q c, f q = some c → D.atKey (.int .i64 q) (.held zeroC) = .held c.V)
theorem MdM.fr {S : Nat → Prop} {w w' : World} {mb N : Nat} {f : Mk} (h : MdM w mb N f) (x : Fr S w w') (hS : ¬ S mb) : MdM w' mb N f := by
  obtain ⟨D, h1, h2⟩ := h
  exact ⟨D, ownsMap_fr h1 x hS, h2⟩
theorem MdM.lt {w : World} {mb N : Nat} {f : Mk} (h : MdM w mb N f) : mb < w.heap.size := by obtain ⟨D, h1, h2⟩ := h; exact h1.lt
theorem MdM.made (w : World) : MdM (w.alloc (.map #[] 0)) w.heap.size 0 (fun _ => none) := ⟨.map [], World.ownsMap_made w _ _ _, fun q => by simp [Maps.has], fun q i h => by simp at h⟩
theorem Rv_inv {v x : Value} {ps : List MemPlace} (h : Rv v = some (.held x, ps)) : v = x := by
  unfold Rv at h
  simp only [Option.some.injEq, Prod.mk.injEq, DataW.held.injEq] at h
  exact h.1
theorem MdM.in_ {w : World} {mb N : Nat} {f : Mk} (h : MdM w mb N f) {q : Int} {c : Cl} (hq : In64 q) (hi : f q = some c) :
    (Instr.lookup 57 (.map (some mb)) (vI q) true).run Tryz.prog w = .ok (.tuple #[c.V, .bool true]) w := by
  obtain ⟨D, h1, h2, h3⟩ := h
  obtain ⟨v, ps, hrun, hv⟩ := h1.look_ok keyed3 und52 (zero75 w) (zd := .held zeroC) (zp := []) rfl (Maps.keyOf_int_mk und3i (wf_int hq))
  rw [h3 q c hi] at hv
  rw [hrun, h2, hi, Rv_inv hv]
  rfl
theorem MdM.out {w : World} {mb N : Nat} {f : Mk} (h : MdM w mb N f) {q : Int} (hq : In64 q) (hi : f q = none) :
    (Instr.lookup 57 (.map (some mb)) (vI q) true).run Tryz.prog w = .ok (.tuple #[zeroC, .bool false]) w := by
  obtain ⟨D, h1, h2, h3⟩ := h
  obtain ⟨v, ps, hrun, hv⟩ := h1.look_ok keyed3 und52 (zero75 w) (zd := .held zeroC) (zp := []) rfl (Maps.keyOf_int_mk und3i (wf_int hq))
  have hh : Maps.has D (.int .i64 q) = false := by rw [h2, hi]; rfl
  rw [Maps.atKey_of_not_has hh] at hv
  rw [hrun, hh, Rv_inv hv]
theorem MdM.put {w : World} {mb N : Nat} {f : Mk} (h : MdM w mb N f) (c : Cl) (hq : In64 c.ky) (hN : N ≤ 1000000) :
    ∃ w', (Instr.mapUpdate 57 (.map (some mb)) (vI c.ky) c.V).run Tryz.prog w = .ok () w' ∧ MdM w' mb (N + 1) (fun q => if q = c.ky then some c else f q) ∧ Fr (fun k => k = mb) w w' := by
  obtain ⟨D, h1, h2, h3⟩ := h
  obtain ⟨w', hrun, hown, hg⟩ := h1.store keyed3 und52 (by unfold maxLen; omega) (Maps.keyOf_int_mk und3i (wf_int hq)) (show Rv c.V = some (.held c.V, []) from rfl)
  refine ⟨w', hrun, ⟨_, hown, fun x => ?_, fun x d hx => ?_⟩, turned_fr hg⟩
  · by_cases e : x = c.ky
    · subst e
      rw [Maps.has_put_same h1.isMap (show WideAt.IsKeyLit (.int .i64 c.ky) from trivial)]
      simp
    · rw [Maps.has_put_other (lit_ne e), h2]
      simp [e]
  · by_cases e : x = c.ky
    · subst e
      simp at hx
      subst hx
      exact Maps.atKey_put_same h1.isMap (show WideAt.IsKeyLit (.int .i64 c.ky) from trivial) _ _
    · simp [e] at hx
      rw [Maps.atKey_put_other (lit_ne e)]
      exact h3 x d hx

theorem results_cell {fn : Func} {p : Tmp} {ty : TypeId} (h : fn.results = #[.cell p ty]) (tmps : Array Value) (P : Program) (w : World) :
    (results fn tmps).run P w = ((asAddr (tmps.getD p undef)).run P w).andThen fun a w₁ => (loadVar ty a).run P w₁ := by
  simp only [results, h]
  simp [Sem.run_bind, Result.andThen]
set_option maxRecDepth 100000 in
set_option maxHeartbeats 4000000 in
/-- pastOf. -/
theorem pastOf_any (lv : Value) (cs : List Cl) (w : World) (hc : CAt w lv cs) (hl : cs.length ≤ 64) :
    Calls Tryz.prog 16 #[lv] w fun e w' => ∃ mb N, e = .returned (.agg #[lv, .map (some mb)]) ∧ Fr (fun _ => False) w w' ∧ MdM w' mb N (madeX cs) := by
  have hmm := @Go.RowKit.run_makeMap Tryz.prog
  obtain ⟨ad, cap, rfl, h1, h2⟩ := hc
  have HX : Hd (∀ i (hi : i < cs.length), ∃ g, ad = some ⟨g, 0, none⟩ ∧ ∀ W, Fr (fun _ => False) w W → ∀ j, j < 9 → W.cell? ⟨g, i * 9 + j, none⟩ = (c9 cs[i])[j]?) := fun i hi => by
    obtain ⟨g, ea, hx⟩ := h1 (fun e => by rw [e] at hi; simp at hi)
    refine ⟨g, ea, fun W f j hj => (f.cell ?_ (fun e => e)).trans (hx i hi j hj)⟩
    have := hx i hi j hj
    rw [List.getElem?_eq_getElem (by exact hj)] at this
    exact cell_lt this
  have HC : Hd (∀ c ∈ cs, c.R.At w ∧ COk c) := h2
  obtain ⟨n, en⟩ : ∃ n, n = cs.length := ⟨_, rfl⟩
  have EN : Hd (n = cs.length) := en
  rw [← en] at hl ⊢
  clear h1 h2 en
  go_enter Tryz.func16, Tryz.ntmps16
  go_upto_region 2 with fail
  obtain ⟨W0, eW⟩ : ∃ W0, W0 = (((w.alloc (Obj.cells #[.slice none 0 0, .map none] 59)).alloc (Obj.map #[] 0)).alloc (Obj.cells #[.slice ad n cap, .map (some (w.heap.size + 1))] 59)) := ⟨_, rfl⟩
  have hW : Fr (fun _ => False) w W0 ∧ MdM W0 (w.heap.size + 1) 0 (fun _ => none) ∧ W0.heap[w.heap.size]? = some (Obj.cells #[.slice none 0 0, .map none] 59) ∧ W0.heap[w.heap.size + 1 + 1]? = some (Obj.cells #[.slice ad n cap, .map (some (w.heap.size + 1))] 59) := by
    rw [eW]
    have z1 : (w.alloc (Obj.cells #[.slice none 0 0, .map none] 59)).heap.size = w.heap.size + 1 := by simp
    have z2 : ((w.alloc (Obj.cells #[.slice none 0 0, .map none] 59)).alloc (Obj.map #[] 0)).heap.size = w.heap.size + 1 + 1 := by simp
    refine ⟨((((Fr.refl _ w).alloc _).alloc _).alloc _), ?_, ?_, ?_⟩
    · have := MdM.made (w.alloc (Obj.cells #[.slice none 0 0, .map none] 59))
      rw [z1] at this
      exact this.fr ((Fr.refl (fun _ => False) _).alloc _) (fun e => e)
    · rw [Go.RowKit.Below.heap_alloc _ _ _ (by rw [z2]; omega), Go.RowKit.Below.heap_alloc _ _ _ (by rw [z1]; omega)]
      exact heap_alloc_last w _
    · have := heap_alloc_last ((w.alloc (Obj.cells #[.slice none 0 0, .map none] 59)).alloc (Obj.map #[] 0)) (Obj.cells #[.slice ad n cap, .map (some (w.heap.size + 1))] 59)
      rw [z2] at this
      exact this
  rw [← eW]
  obtain ⟨b2, eb⟩ : ∃ b2, b2 = w.heap.size := ⟨_, rfl⟩
  rw [← eb] at hW ⊢
  have HW : Hd _ := hW
  have EB : Hd (b2 = w.heap.size) := eb
  clear hW eW eb hmm
  go_wp2_with fail
  go_loopw [11] (fun v wr => ∃ k : Nat, v = vI k ∧ k ≤ n ∧ Hd (Fr (fun _ => False) w wr ∧ (∃ N, N ≤ k ∧ MdM wr (b2 + 1) N (madeX (cs.take k))) ∧ wr.heap[b2]? = some (Obj.cells #[.slice none 0 0, .map none] 59) ∧ wr.heap[b2 + 1 + 1]? = some (Obj.cells #[.slice ad n cap, .map (some (b2 + 1))] 59))) (fun v _ => match v with | .int _ q => n - q.toNat | _ => 0)
  case atStart => exact ⟨0, rfl, by omega, HW.out.1, ⟨0, by omega, HW.out.2.1⟩, HW.out.2.2.1, HW.out.2.2.2⟩
  case round =>
    clear HW
    obtain ⟨k, rfl, hk, HR⟩ := hrel
    by_cases hlt : k < n
    · have k0 : (0 : Int) ≤ k := by omega
      have k1 : (k : Int) < n := by omega
      have hkl : k < cs.length := by rw [← EN.out]; exact hlt
      obtain ⟨g, rfl, hc0⟩ := HX.out k hkl
      have hc := hc0 wr HR.out.1
      have et : madeX (cs.take (k + 1)) = if makesB cs[k] then (fun q => if q = cs[k].ky then some cs[k] else madeX (cs.take k) q) else madeX (cs.take k) := by
        rw [List.take_add_one, List.getElem?_eq_getElem hkl]; exact madeX_snoc _ _
      have hck := HC.out cs[k] (List.getElem_mem hkl)
      obtain ⟨c, ec⟩ : ∃ c, c = cs[k] := ⟨_, rfl⟩
      rw [← ec] at hc et hck
      have HCK : Hd (c.R.At w ∧ COk c) := hck
      have ET : Hd _ := et
      obtain ⟨ka, kc, ek⟩ := row_slice hck.1.1
      obtain ⟨va, vc, ev⟩ := row_slice hck.1.2
      have HMK : Hd (∀ W, Calls Tryz.prog 32 #[c.V] W fun e w' => e = .returned (.bool (makesB c)) ∧ Fr (fun _ => False) W w') := fun W => makes_any c W
      obtain ⟨N, hN, hM⟩ := HR.out.2.1
      have hput := fun W (f : Fr (fun _ => False) wr W) => (hM.fr f (fun e => e)).put c hck.2.ky (by omega)
      have HP : Hd (∀ W, Fr (fun _ => False) wr W → ∃ w', (Instr.mapUpdate 57 (.map (some (b2 + 1))) (vI c.ky) c.V).run Tryz.prog W = .ok () w' ∧ MdM w' (b2 + 1) (N + 1) (fun q => if q = c.ky then some c else madeX (cs.take k) q) ∧ Fr (fun k => k = b2 + 1) W w') := hput
      have HN : Hd (N ≤ k ∧ MdM wr (b2 + 1) N (madeX (cs.take k))) := ⟨hN, hM⟩
      obtain ⟨M, hMk⟩ : ∃ M, M = makesB c := ⟨_, rfl⟩
      have EM : Hd (M = makesB c) := hMk
      rw [← hMk] at HMK
      clear hMk et hck ec hc0 hkl hput hN hM
      unfold c9 at hc
      have x0 := hc 0 (by omega)
      have x1 := hc 1 (by omega)
      have x2 := hc 2 (by omega)
      have x3 := hc 3 (by omega)
      have x4 := hc 4 (by omega)
      have x5 := hc 5 (by omega)
      have x6 := hc 6 (by omega)
      have x7 := hc 7 (by omega)
      have x8 := hc 8 (by omega)
      simp only [List.getElem?_cons_zero, List.getElem?_cons_succ, Nat.add_zero] at x0 x1 x2 x3 x4 x5 x6 x7 x8
      clear hc
      unfold Cl.V c9 at HMK HP
      obtain ⟨b, en', kd, ky, v, ⟨⟨ok, val, ks, vs⟩, kv, vv⟩⟩ := c
      simp only [List.length_map] at x0 x1 x2 x3 x4 x5 x6 x7 x8 ek ev HMK HP
      subst ek ev
      have H3 : Hd (∀ W S, Fr S wr W → ¬ S b2 → ¬ S (b2 + 1 + 1) → W.heap[b2]? = some (Obj.cells #[.slice none 0 0, .map none] 59) ∧ W.heap[b2 + 1 + 1]? = some (Obj.cells #[.slice (some ⟨g, 0, none⟩) n cap, .map (some (b2 + 1))] 59)) := fun W S f h1 h2 =>
        ⟨(f.block _ (heap_lt HR.out.2.2.1) h1).trans HR.out.2.2.1, (f.block _ (heap_lt HR.out.2.2.2) h2).trans HR.out.2.2.2⟩
      cases M
      · go_wp2_with (go_at_call 32; refine (HMK.out _).mono ?_; rintro _ w3 ⟨rfl, hf3⟩; have HF3 : Hd _ := hf3; clear hf3)
        have hf : Fr (fun _ => False) wr w3 := ((Fr.refl _ wr).alloc _).trans HF3.out
        obtain ⟨q1, q2⟩ := H3.out w3 _ hf (fun e => e) (fun e => e)
        refine ⟨⟨k + 1, by simp, by omega, HR.out.1.trans hf, ⟨N, by have := HN.out.1; omega, ?_⟩, q1, q2⟩, by simp; omega⟩
        rw [show madeX (cs.take (k + 1)) = _ from ET.out, ← EM.out]
        exact HN.out.2.fr hf (fun e => e)
      · go_upto_region 6 with (go_at_call 32; refine (HMK.out _).mono ?_; rintro _ w3 ⟨rfl, hf3⟩; have HF3 : Hd _ := hf3; clear hf3)
        have hf : Fr (fun _ => False) wr w3 := ((Fr.refl _ wr).alloc _).trans HF3.out
        have hbx : w3.heap[wr.heap.size]? = _ := (HF3.out.block _ (by simp) (fun e => e)).trans (heap_alloc_last wr _)
        have hpm : wr.heap.size < w3.heap.size := heap_lt hbx
        have HLT : Hd (b2 + 1 < wr.heap.size ∧ b2 < wr.heap.size ∧ b2 + 1 + 1 < wr.heap.size) := ⟨HN.out.2.lt, heap_lt HR.out.2.2.1, heap_lt HR.out.2.2.2⟩
        obtain ⟨q1, q2⟩ := H3.out w3 _ hf (fun e => e) (fun e => e)
        obtain ⟨w5, hup, hM5, hf5⟩ := HP.out w3 hf
        have HW5 : Hd (Fr (fun k => k = b2 + 1) w3 w5 ∧ MdM w5 (b2 + 1) (N + 1) (fun q => if q = ky then some ⟨b, en', kd, ky, v, ⟨⟨ok, val, ks, vs⟩, .slice ka ks.length kc, .slice va vs.length vc⟩⟩ else madeX (cs.take k) q) ∧ Fr (fun _ => False) wr w3) := ⟨hf5, by simpa using hM5, hf⟩
        obtain ⟨pm, epm⟩ : ∃ pm, pm = wr.heap.size := ⟨_, rfl⟩
        rw [← epm] at hbx ⊢
        obtain ⟨y0, y1, y2, y3, y4, y5, y6, y7, y8⟩ := nine hbx
        have z1 := cell_of q2 1
        simp only [List.getElem?_toArray, List.getElem?_cons_zero, List.getElem?_cons_succ] at z1
        clear hbx hpm q1 q2 hM5 hf5 hf epm HF3 HP HMK
        go_wp2_with fail
        have hf : Fr (fun _ => False) w w5 := (HR.out.1.trans HW5.out.2.2).under HW5.out.1 (fun j e => by have := EB.out; omega)
        have hf2 : Fr (fun k => k = b2 + 1) wr w5 := (HW5.out.2.2.mono (fun _ _ e => e.elim)).trans HW5.out.1
        obtain ⟨q1, q2⟩ := H3.out w5 _ hf2 (by omega) (by omega)
        refine ⟨⟨k + 1, by simp, by omega, hf, ⟨N + 1, by have := HN.out.1; omega, ?_⟩, q1, q2⟩, by simp; omega⟩
        rw [show madeX (cs.take (k + 1)) = _ from ET.out, ← EM.out]
        exact HW5.out.2.1
    · have hkn : k = cs.length := by have := EN.out; omega
      have z0 := cell_of HR.out.2.2.2 0
      have z1 := cell_of HR.out.2.2.2 1
      have y0 := cell_of HR.out.2.2.1 0
      have y1 := cell_of HR.out.2.2.1 1
      have f0 := frozen_of HR.out.2.2.1 0
      have f1 := frozen_of HR.out.2.2.1 1
      simp only [List.getElem?_toArray, List.getElem?_cons_zero, List.getElem?_cons_succ] at z0 z1 y0 y1
      have HE : Hd (∃ N, MdM wr (b2 + 1) N (madeX cs)) := by
        obtain ⟨N, -, h⟩ := HR.out.2.1
        rw [hkn, List.take_of_length_le (Nat.le_refl _)] at h
        exact ⟨N, h⟩
      clear hkn
      go_wp2_with fail
      have hb : ((wr.setCell ⟨b2, 0, none⟩ (.slice ad n cap)).setCell ⟨b2, 1, none⟩ (.map (some (b2 + 1)))).heap[b2]? = some (Obj.cells #[.slice ad n cap, .map (some (b2 + 1))] 59) := set_of (set_of HR.out.2.2.1 0 _) 1 _
      have hf : Fr (fun k => k = b2) wr ((wr.setCell ⟨b2, 0, none⟩ (.slice ad n cap)).setCell ⟨b2, 1, none⟩ (.map (some (b2 + 1)))) := by
        refine Fr.setCell ?_ _ _ (Or.inl rfl)
        refine Fr.setCell ?_ _ _ (Or.inl rfl)
        exact Fr.refl _ _
      obtain ⟨W, eW⟩ : ∃ W, W = ((wr.setCell ⟨b2, 0, none⟩ (.slice ad n cap)).setCell ⟨b2, 1, none⟩ (.map (some (b2 + 1)))) := ⟨_, rfl⟩
      rw [← eW] at hb hf ⊢
      have u0 : W.cell? ⟨b2, 0, none⟩ = some (.slice ad n cap) := cell_of hb 0
      have u1 : W.cell? ⟨b2, 1, none⟩ = some (.map (some (b2 + 1))) := cell_of hb 1
      obtain ⟨N, hN⟩ := HE.out
      refine bodyPost_ret (v := .agg #[.slice ad n cap, .map (some (b2 + 1))]) ?_ rfl ⟨_, N, rfl, HR.out.1.under hf (fun j e => by have := EB.out; omega), hN.fr hf (by omega)⟩
      rw [results_cell (p := 2) (ty := 59) Tryz.results16]
      simp [go_sem, u0, u1]
end Go.Proofs.YtihicdbplmdjiaaGreat
namespace Go.Proofs.YtihicdbplmdjiaaGreat
open Go.RowKit (wrap32 wrap64)

/-! ### sets of calls -/
abbrev vS (n : Nat) : Value := .int .u64 (n : Int)
theorem two_pow_lt {b : Nat} (hb : b < 64) : 2 ^ b < 18446744073709551616 := Nat.pow_lt_pow_right (a := 2) (by omega) hb
theorem wrap_pow {b : Nat} (hb : b < 64) : IntKind.u64.wrap (2 ^ b) = ((2 ^ b : Nat) : Int) := by
  have := two_pow_lt hb
  have e : (2 : Int) ^ b = ((2 ^ b : Nat) : Int) := by simp
  rw [IntKind.wrap_u64, e]
  generalize 2 ^ b = p at *
  omega
def dropS (s i : Nat) : Nat := s &&& (18446744073709551615 - 2 ^ i)
theorem with_any (s i : Nat) (w : World) (hs : s < 18446744073709551616) (hi : i < 64) : Calls Tryz.prog 58 #[vS s, vI i] w fun e w' => e = .returned (vS (s ||| 2 ^ i)) ∧ w' = w := by
  have i0 : (0 : Int) ≤ i := by omega
  have e1 : bits .or .u64 (s : Int) (IntKind.u64.wrap (2 ^ i)) = ((s ||| 2 ^ i : Nat) : Int) := by rw [wrap_pow hi]; exact bits_or_u64_nat _ _ hs (two_pow_lt hi)
  go_enter Tryz.func58, Tryz.ntmps58
  go_wp2_with fail
  go_ret
  exact ⟨by simp [e1], rfl⟩
theorem has_any (s i : Nat) (w : World) (hs : s < 18446744073709551616) (hi : i < 64) : Calls Tryz.prog 59 #[vS s, vI i] w fun e w' => e = .returned (.bool (s.testBit i)) ∧ w' = w := by
  have i0 : (0 : Int) ≤ i := by omega
  have e0 : (s : Int) / 2 ^ i = ((s / 2 ^ i : Nat) : Int) := by simp
  have e1 : bits .and .u64 ((s : Int) / 2 ^ i) 1 = ((s / 2 ^ i &&& 1 : Nat) : Int) := by
    rw [e0]
    exact bits_and_u64_nat _ 1 (Nat.lt_of_le_of_lt (Nat.div_le_self _ _) hs) (by decide)
  have h2 : s / 2 ^ i &&& 1 = s / 2 ^ i % 2 := Nat.and_one_is_mod _
  have e2 : (bits .and .u64 ((s : Int) / 2 ^ i) 1 == 1) = s.testBit i := by
    rw [e1, h2, Nat.testBit_eq_decide_div_mod_eq]
    generalize s / 2 ^ i % 2 = q
    by_cases hq : q = 1
    · subst hq; rfl
    · have h3 : ((q : Int) == 1) = false := by
        rw [beq_eq_false_iff_ne]; omega
      rw [h3]
      exact (decide_eq_false hq).symm
  obtain ⟨B, hB⟩ : ∃ B, B = s.testBit i := ⟨_, rfl⟩
  rw [← hB] at e2 ⊢
  clear hB h2 e1 e0
  go_enter Tryz.func59, Tryz.ntmps59
  go_wp2_with fail
  go_ret
  exact ⟨rfl, rfl⟩
theorem without_any (s i : Nat) (w : World) (hs : s < 18446744073709551616) (hi : i < 64) : Calls Tryz.prog 37 #[vS s, vI i] w fun e w' => e = .returned (vS (dropS s i)) ∧ w' = w := by
  have i0 : (0 : Int) ≤ i := by omega
  have e1 : bits .andNot .u64 (s : Int) (IntKind.u64.wrap (2 ^ i)) = ((dropS s i : Nat) : Int) := by rw [wrap_pow hi]; exact u64_andNot_nat _ _ hs (two_pow_lt hi)
  obtain ⟨d, hd⟩ : ∃ d, d = dropS s i := ⟨_, rfl⟩
  rw [← hd] at e1 ⊢
  clear hd
  go_enter Tryz.func37, Tryz.ntmps37
  go_wp2_with fail
  go_ret
  exact ⟨rfl, rfl⟩
theorem firsts_any (i : Nat) (w : World) (hi : i ≤ 64) : Calls Tryz.prog 35 #[vI i] w fun e w' => e = .returned (vS (2 ^ i - 1)) ∧ w' = w := by
  have i0 : (0 : Int) ≤ i := by omega
  have e1 : IntKind.u64.wrap (IntKind.u64.wrap (2 ^ i) - 1) = ((2 ^ i - 1 : Nat) : Int) := by
    rw [IntKind.wrap_u64, IntKind.wrap_u64]
    have e : (2 : Int) ^ i = ((2 ^ i : Nat) : Int) := by simp
    rw [e]
    rcases Nat.lt_or_ge i 64 with h | h
    · have h1 := two_pow_lt h
      have h2 := Nat.two_pow_pos i
      generalize 2 ^ i = p at *
      omega
    · have : i = 64 := by omega
      subst this
      decide
  obtain ⟨d, hd⟩ : ∃ d, d = 2 ^ i - 1 := ⟨_, rfl⟩
  rw [← hd] at e1 ⊢
  clear hd
  go_enter Tryz.func35, Tryz.ntmps35
  go_wp2_with fail
  go_ret
  exact ⟨rfl, rfl⟩
theorem firsts_bit (n j : Nat) : (2 ^ n - 1).testBit j = decide (j < n) := Nat.testBit_two_pow_sub_one n j
theorem firsts_lt {n : Nat} (h : n ≤ 64) : 2 ^ n - 1 < 18446744073709551616 := by
  have : 2 ^ n ≤ 2 ^ 64 := Nat.pow_le_pow_right (by omega) h
  have h2 := Nat.two_pow_pos n
  have e : (2 : Nat) ^ 64 = 18446744073709551616 := by decide
  omega
theorem dropS_lt {s : Nat} (i : Nat) (hs : s < 18446744073709551616) : dropS s i < 18446744073709551616 := Nat.lt_of_le_of_lt Nat.and_le_left hs
theorem dropS_bit {s i : Nat} (j : Nat) (hs : s < 18446744073709551616) (hi : i < 64) : (dropS s i).testBit j = (s.testBit j && !decide (j = i)) := by
  unfold dropS
  rw [Nat.testBit_and]
  rcases Nat.lt_or_ge j 64 with h | h
  · have e : 18446744073709551615 - 2 ^ i = 2 ^ 64 - (2 ^ i + 1) := by omega
    rw [e, Nat.testBit_two_pow_sub_succ (two_pow_lt hi), Nat.testBit_two_pow]
    simp [h, eq_comm]
  · have : s.testBit j = false := Nat.testBit_lt_two_pow (Nat.lt_of_lt_of_le (show s < 2 ^ 64 from hs) (Nat.pow_le_pow_right (by omega) h))
    rw [this]; rfl
theorem with_bit (s i j : Nat) : (s ||| 2 ^ i).testBit j = (s.testBit j || decide (j = i)) := by
  rw [Nat.testBit_or, Nat.testBit_two_pow]
  simp [eq_comm]
theorem with_lt {s i : Nat} (hs : s < 18446744073709551616) (hi : i < 64) : s ||| 2 ^ i < 18446744073709551616 := Nat.or_lt_two_pow (n := 64) hs (two_pow_lt hi)

/-! ### the least call that waits for none that is left -/
def freeB (s : Nat) (ws : List Nat) (i : Nat) : Bool := s.testBit i && decide (s &&& ws.getD i 0 = 0)
def leastX (s : Nat) (ws : List Nat) : Option Nat := (List.range ws.length).find? (freeB s ws)
theorem leastX_some {s : Nat} {ws : List Nat} {k : Nat} (hk : k < ws.length) (h : freeB s ws k = true) (h2 : ∀ i, i < k → freeB s ws i = false) : leastX s ws = some k := by
  unfold leastX
  rw [List.find?_eq_some_iff_append]
  refine ⟨h, List.range k, (List.range ws.length).drop (k + 1), ?_, fun a ha => by rw [h2 a (List.mem_range.1 ha)]; rfl⟩
  have e1 : List.range ws.length = (List.range ws.length).take k ++ (List.range ws.length).drop k := (List.take_append_drop _ _).symm
  rw [List.drop_eq_getElem_cons (by simpa using hk), List.getElem_range, List.take_range, Nat.min_eq_left (by omega)] at e1
  exact e1
theorem leastX_none {s : Nat} {ws : List Nat} (h2 : ∀ i, i < ws.length → freeB s ws i = false) : leastX s ws = none := by
  unfold leastX
  rw [List.find?_eq_none]
  intro a ha
  rw [h2 a (List.mem_range.1 ha)]
  simp
def leastI (s : Nat) (ws : List Nat) : Int := match leastX s ws with | some i => (i : Int) | none => -1

set_option maxRecDepth 100000 in
set_option maxHeartbeats 4000000 in
theorem leastFree_any (s : Nat) (v : Value) (ws : List Nat) (w : World) (h : RowAt w v (ws.map vS)) (hs : s < 18446744073709551616) (hw : ∀ x ∈ ws, x < 18446744073709551616) (hl : ws.length ≤ 64) :
    Calls Tryz.prog 36 #[vS s, v] w fun e w' => e = .returned (vI (leastI s ws)) ∧ Fr (fun _ => False) w w' := by
  obtain ⟨ad, cap, rfl, h1⟩ := h
  simp only [List.length_map] at h1 ⊢
  obtain ⟨n, hn⟩ : ∃ n, n = ws.length := ⟨_, rfl⟩
  have HN : Hd (n = ws.length ∧ s < 18446744073709551616 ∧ ∀ x ∈ ws, x < 18446744073709551616) := ⟨hn, hs, hw⟩
  have H1 : Hd (∀ j (h : j < ws.length), ∃ k o, ad = some ⟨k, o, none⟩ ∧ w.cell? ⟨k, o + j, none⟩ = some (vS ws[j])) := fun j hj => by
    obtain ⟨k, o, e1, e3⟩ := h1 (by intro e; rw [List.map_eq_nil_iff] at e; subst e; simp at hj)
    exact ⟨k, o, e1, by rw [e3 j (by simpa using hj)]; simp⟩
  have HH : Hd (∀ (i : Nat) (W : World), i < 64 → Calls Tryz.prog 59 #[vS s, vI i] W fun e w' => e = .returned (.bool (s.testBit i)) ∧ w' = W) := fun i W hi => has_any s i W hs hi
  obtain ⟨L, hL⟩ : ∃ L, L = leastI s ws := ⟨_, rfl⟩
  have EL : Hd (L = leastI s ws) := hL
  rw [← hn] at hl ⊢
  rw [← hL]
  clear h1 hn hs hw hL
  go_enter Tryz.func36, Tryz.ntmps36
  go_wp2_with fail
  go_loopw [9] (fun v wr => ∃ k : Nat, v = vI k ∧ k ≤ n ∧ Hd (Fr (fun _ => False) w wr ∧ ∀ i, i < k → freeB s ws i = false)) (fun v _ => match v with | .int _ q => n - q.toNat | _ => 0)
  case atStart => exact ⟨0, rfl, by omega, Fr.refl _ _, fun i hi => absurd hi (by omega)⟩
  case round =>
    obtain ⟨k, rfl, hk, HR⟩ := hrel
    by_cases hlt : k < n
    · have k0 : (0 : Int) ≤ k := by omega
      have k1 : (k : Int) < n := by omega
      have hkl : k < ws.length := by rw [← HN.out.1]; exact hlt
      obtain ⟨g, o, rfl, hc⟩ := H1.out k hkl
      have x0 : wr.cell? ⟨g, o + k, none⟩ = some (vS ws[k]) := (HR.out.1.cell (cell_lt hc) (fun e => e)).trans hc
      obtain ⟨x, ex⟩ : ∃ x, x = ws[k] := ⟨_, rfl⟩
      rw [← ex] at x0
      have hx : x < 18446744073709551616 := by rw [ex]; exact HN.out.2.2 _ (List.getElem_mem hkl)
      have HX : Hd (ws.getD k 0 = x ∧ k < ws.length) := ⟨by rw [List.getD_eq_getElem?_getD, List.getElem?_eq_getElem hkl, ex]; rfl, hkl⟩
      have q1 : bits .and .u64 (s : Int) (x : Int) = ((s &&& x : Nat) : Int) := bits_and_u64_nat _ _ HN.out.2.1 hx
      have HC : Calls Tryz.prog 59 #[vS s, vI k] wr fun e w' => e = .returned (.bool (s.testBit k)) ∧ w' = wr := HH.out k wr (by omega)
      obtain ⟨B, hB⟩ : ∃ B, B = s.testBit k := ⟨_, rfl⟩
      have EB : Hd (B = s.testBit k) := hB
      rw [← hB] at HC
      obtain ⟨a, ha⟩ : ∃ a, a = s &&& x := ⟨_, rfl⟩
      have EA : Hd (a = s &&& x) := ha
      rw [← ha] at q1
      have HC2 : Hd (Calls Tryz.prog 59 #[vS s, vI k] wr fun e w' => e = .returned (.bool B) ∧ w' = wr) := HC
      clear hB ha hx ex hc hkl HC H1
      cases B
      · go_wp2_with (go_at_call 59; refine HC2.out.mono ?_; rintro _ w3 ⟨rfl, rfl⟩)
        refine ⟨⟨k + 1, by simp, by omega, HR.out.1, fun i hi => ?_⟩, by simp; omega⟩
        rcases Nat.lt_or_ge i k with h2 | h2
        · exact HR.out.2 i h2
        · have e : i = k := by omega
          subst e
          unfold freeB
          rw [← EB.out]; rfl
      · by_cases ha : a = 0
        · subst ha
          go_wp2_with (go_at_call 59; refine HC2.out.mono ?_; rintro _ w3 ⟨rfl, rfl⟩)
          go_ret
          refine ⟨?_, HR.out.1⟩
          have : leastX s ws = some k := leastX_some HX.out.2 (by unfold freeB; rw [← EB.out, HX.out.1, ← EA.out]; simp) HR.out.2
          rw [EL.out]
          unfold leastI
          rw [this]
          rfl
        · have ha2 : ¬ (a : Int) = 0 := by omega
          have ha3 : ((a : Int) == 0) = false := by simpa using ha
          go_wp2_with (go_at_call 59; refine HC2.out.mono ?_; rintro _ w3 ⟨rfl, rfl⟩)
          refine ⟨⟨k + 1, by simp, by omega, HR.out.1, fun i hi => ?_⟩, by simp; omega⟩
          rcases Nat.lt_or_ge i k with h2 | h2
          · exact HR.out.2 i h2
          · have e : i = k := by omega
            subst e
            unfold freeB
            rw [HX.out.1, ← EA.out]
            simp [ha]
    · have e : k = ws.length := by have := HN.out.1; omega
      have HE : Hd (L = -1) := by
        have : leastX s ws = none := leastX_none (fun i hi => HR.out.2 i (by omega))
        rw [EL.out]
        unfold leastI
        rw [this]
        rfl
      clear e
      go_wp2_with fail
      go_ret
      exact ⟨by rw [HE.out]; rfl, HR.out.1⟩

/-! ### is each value that an answer tells the one that was published? -/
def hasB (f : Mk) (key : Int) (val : ByteArray) : Bool := match f key with | some c => decide (c.v.toList = val.toList) | none => false
/-- What past holds: the calls, and by key the one that made its value. -/
structure PAt (w : World) (lv : Value) (mb N : Nat) (cs : List Cl) (f : Mk) : Prop where
  cat : CAt w lv cs
  map : MdM w mb N f
  ats : ∀ q c, f q = some c → c.R.At w
theorem PAt.fr {w w' : World} {lv : Value} {mb N : Nat} {cs : List Cl} {f : Mk} (h : PAt w lv mb N cs f) (x : Fr (fun _ => False) w w') : PAt w' lv mb N cs f :=
  ⟨h.cat.fr x, h.map.fr x (fun e => e), fun q c e => (h.ats q c e).fr x⟩
def pV (lv : Value) (mb : Nat) : Value := .agg #[lv, .map (some mb)]

set_option maxHeartbeats 2000000 in
theorem has61 (lv : Value) (mb N : Nat) (cs : List Cl) (f : Mk) (key : Int) (val : ByteArray) (w : World) (h : PAt w lv mb N cs f) (hk : In64 key) :
    Calls Tryz.prog 66 #[pV lv mb, vI key, .string val] w fun e w' => e = .returned (.bool (hasB f key val)) ∧ Fr (fun _ => False) w w' := by
  obtain ⟨ad, cap, rfl, -⟩ := h.cat
  unfold pV hasB
  have HF : Hd (Fr (fun _ => False) w (w.alloc (.cells #[.slice ad cs.length cap, .map (some mb)] 59))) := (Fr.refl _ w).alloc _
  have hm := h.map.fr HF.out (fun e => e)
  cases hf : f key with
  | none =>
    have hq := hm.out hk hf
    unfold zeroC at hq
    clear hm h hf
    go_enter Tryz.func66, Tryz.ntmps66
    go_wp2_with fail
    go_ret
    exact ⟨rfl, HF.out.alloc _⟩
  | some c =>
    have hq := hm.in_ hk hf
    obtain ⟨ka, kc, ek⟩ := row_slice (h.ats key c hf).1
    obtain ⟨va, vc, ev⟩ := row_slice (h.ats key c hf).2
    unfold Cl.V c9 at hq
    obtain ⟨b, en', kd, ky, v, ⟨⟨ok, v2, ks, vs⟩, kv, vv⟩⟩ := c
    simp only [List.length_map] at hq ek ev ⊢
    subst ek ev
    clear hm h hf
    by_cases hv : v.toList = val.toList
    · go_enter Tryz.func66, Tryz.ntmps66
      go_wp2_with fail
      go_ret
      exact ⟨by simp [hv], HF.out.alloc _⟩
    · go_enter Tryz.func66, Tryz.ntmps66
      go_wp2_with fail
      go_ret
      exact ⟨by simp [hv], HF.out.alloc _⟩

def canTellB (f : Mk) (c : Cl) : Bool := if c.kd = 1 then (f c.ky).isSome else if c.kd = 2 then !c.R.r.ok || hasB f c.ky c.R.r.val else (c.R.r.keys.zip c.R.r.vals).all (fun p => hasB f p.1 p.2)
set_option maxRecDepth 100000 in
set_option maxHeartbeats 4000000 in
theorem canTell_any (lv : Value) (mb N : Nat) (cs : List Cl) (f : Mk) (c : Cl) (w : World) (h : PAt w lv mb N cs f) (hc : c.R.At w) (hk : COk c) :
    Calls Tryz.prog 56 #[pV lv mb, c.V] w fun e w' => e = .returned (.bool (canTellB f c)) ∧ Fr (fun _ => False) w w' := by
  have HS : Hd (∀ W key val, Fr (fun _ => False) w W → In64 key → Calls Tryz.prog 66 #[pV lv mb, vI key, .string val] W fun e w' => e = .returned (.bool (hasB f key val)) ∧ Fr (fun _ => False) W w') := fun W key val x hk => has61 lv mb N cs f key val W (h.fr x) hk
  have HP : Hd (∀ W, Fr (fun _ => False) w W → MdM W mb N f ∧ ∀ q d, f q = some d → d.R.At W) := fun W x => ⟨(h.fr x).map, (h.fr x).ats⟩
  obtain ⟨ad, cap, rfl, -⟩ := h.cat
  have HCO : Hd (c.R.At w ∧ COk c) := ⟨hc, hk⟩
  obtain ⟨ka, kc, ek⟩ := row_slice hc.1
  obtain ⟨va, vc, ev⟩ := row_slice hc.2
  unfold pV at *
  unfold Cl.V c9
  obtain ⟨b, en', kd, ky, v, ⟨⟨ok, val, ks, vs⟩, kv, vv⟩⟩ := c
  unfold canTellB
  simp only [List.length_map] at ek ev ⊢
  subst ek ev
  clear h hc hk
  have HF : Hd (Fr (fun _ => False) w ((w.alloc (.cells #[.slice ad cs.length cap, .map (some mb)] 59)).alloc (.cells #[vI b, vI en', vI kd, vI ky, .string v, .bool ok, .string val, .slice ka ks.length kc, .slice va vs.length vc] 87))) := ((Fr.refl _ w).alloc _).alloc _
  by_cases h1 : kd = 1
  · subst h1
    have hm := (HP.out _ HF.out).1
    have ha := (HP.out _ HF.out).2 ky
    cases hf : f ky with
    | none =>
      have hq := hm.out HCO.out.2.ky hf
      unfold zeroC at hq
      clear hm ha hf
      go_enter Tryz.func56, Tryz.ntmps56
      go_wp2_with fail
      go_ret
      exact ⟨by simp, HF.out.alloc _⟩
    | some d =>
      have hq := hm.in_ HCO.out.2.ky hf
      have hd := ha d hf
      obtain ⟨ka', kc', ek⟩ := row_slice hd.1
      obtain ⟨va', vc', ev⟩ := row_slice hd.2
      unfold Cl.V c9 at hq
      obtain ⟨b', en2, kd', ky', v', ⟨⟨ok', v2, ks', vs'⟩, kv, vv⟩⟩ := d
      simp only [List.length_map] at hq ek ev ⊢
      subst ek ev
      clear hm ha hf hd
      go_enter Tryz.func56, Tryz.ntmps56
      go_wp2_with fail
      go_ret
      exact ⟨by simp, HF.out.alloc _⟩
  · by_cases h2 : kd = 2
    · subst h2
      have hc := HS.out _ ky val HF.out HCO.out.2.ky
      obtain ⟨B, hB⟩ : ∃ B, B = hasB f ky val := ⟨_, rfl⟩
      rw [← hB] at hc ⊢
      clear hB
      cases ok
      · go_enter Tryz.func56, Tryz.ntmps56
        go_wp2_with fail
        go_ret
        exact ⟨by simp, HF.out⟩
      · go_enter Tryz.func56, Tryz.ntmps56
        go_wp2_with (go_at_call 66; refine hc.mono ?_; rintro _ w3 ⟨rfl, hf3⟩; have HF3 : Hd _ := hf3; clear hf3)
        go_ret
        exact ⟨by simp, HF.out.trans HF3.out⟩
    · have h3 : kd = 3 := by rcases HCO.out.2.kinds with e | e | e; exact absurd e h1; exact absurd e h2; exact e
      subst h3
      have hvl : vs.length = ks.length := HCO.out.2.fine.vlen rfl
      have hkl : ks.length ≤ 1000000000000000000 := HCO.out.2.fine.len
      obtain ⟨n, en⟩ : ∃ n, n = ks.length := ⟨_, rfl⟩
      have EN : Hd (n = ks.length ∧ n = vs.length) := ⟨en, by omega⟩
      rw [hvl] at HF ⊢
      rw [← en] at HF hkl ⊢
      have HX : Hd (∀ i (hi : i < ks.length), ∃ g o, ka = some ⟨g, o, none⟩ ∧ ∀ W, Fr (fun _ => False) w W → W.cell? ⟨g, o + i, none⟩ = some (vI ks[i])) := fun i hi => by
        obtain ⟨a, cc, e, hx⟩ := HCO.out.1.1
        obtain ⟨g, o, ea, hx⟩ := hx (fun e => by rw [List.map_eq_nil_iff] at e; subst e; simp at hi)
        have e1 : ka = a := by injection e
        have := hx i (by simpa using hi)
        rw [List.getElem_map] at this
        exact ⟨g, o, by rw [e1, ea], fun W f => (f.cell (cell_lt this) (fun e => e)).trans this⟩
      have HY : Hd (∀ i (hi : i < vs.length), ∃ g o, va = some ⟨g, o, none⟩ ∧ ∀ W, Fr (fun _ => False) w W → W.cell? ⟨g, o + i, none⟩ = some (.string vs[i])) := fun i hi => by
        obtain ⟨a, cc, e, hx⟩ := HCO.out.1.2
        obtain ⟨g, o, ea, hx⟩ := hx (fun e => by rw [List.map_eq_nil_iff] at e; subst e; simp at hi)
        have e1 : va = a := by injection e
        have := hx i (by simpa using hi)
        rw [List.getElem_map] at this
        exact ⟨g, o, by rw [e1, ea], fun W f => (f.cell (cell_lt this) (fun e => e)).trans this⟩
      obtain ⟨A, hA⟩ : ∃ A, A = (ks.zip vs).all (fun p => hasB f p.1 p.2) := ⟨_, rfl⟩
      have EA : Hd (A = (ks.zip vs).all (fun p => hasB f p.1 p.2)) := hA
      rw [← hA]
      have b1 : ((w.alloc (.cells #[.slice ad cs.length cap, .map (some mb)] 59)).alloc (.cells #[vI b, vI en', vI 3, vI ky, .string v, .bool ok, .string val, .slice ka n kc, .slice va n vc] 87)).heap[w.heap.size]? = some (.cells #[.slice ad cs.length cap, .map (some mb)] 59) := by
        rw [Go.RowKit.Below.heap_alloc _ _ _ (by simp)]; exact heap_alloc_last w _
      have b2 : ((w.alloc (.cells #[.slice ad cs.length cap, .map (some mb)] 59)).alloc (.cells #[vI b, vI en', vI 3, vI ky, .string v, .bool ok, .string val, .slice ka n kc, .slice va n vc] 87)).heap[w.heap.size + 1]? = some (.cells #[vI b, vI en', vI 3, vI ky, .string v, .bool ok, .string val, .slice ka n kc, .slice va n vc] 87) := by
        have := heap_alloc_last (w.alloc (.cells #[.slice ad cs.length cap, .map (some mb)] 59)) (.cells #[vI b, vI en', vI 3, vI ky, .string v, .bool ok, .string val, .slice ka n kc, .slice va n vc] 87)
        rw [show (w.alloc (.cells #[.slice ad cs.length cap, .map (some mb)] 59)).heap.size = w.heap.size + 1 by simp] at this
        exact this
      obtain ⟨W, eW⟩ : ∃ W, W = ((w.alloc (.cells #[.slice ad cs.length cap, .map (some mb)] 59)).alloc (.cells #[vI b, vI en', vI 3, vI ky, .string v, .bool ok, .string val, .slice ka n kc, .slice va n vc] 87)) := ⟨_, rfl⟩
      rw [← eW] at HF b1 b2
      clear hA en hvl HP h1 h2
      go_enter Tryz.func56, Tryz.ntmps56
      go_upto_region 1 with fail
      rw [← eW]
      clear eW
      obtain ⟨bb, ebb⟩ : ∃ bb, bb = w.heap.size := ⟨_, rfl⟩
      rw [← ebb] at b1 b2 ⊢
      have HBX : Hd (∀ W2, Fr (fun _ => False) W W2 → (W2.cell? ⟨bb, 0, none⟩ = some (.slice ad cs.length cap) ∧ W2.cell? ⟨bb, 1, none⟩ = some (.map (some mb))) ∧ W2.cell? ⟨bb + 1, 2, none⟩ = some (vI 3) ∧ W2.cell? ⟨bb + 1, 7, none⟩ = some (.slice ka n kc) ∧ W2.cell? ⟨bb + 1, 8, none⟩ = some (.slice va n vc)) := fun W2 f => by
        have e1 := (f.block _ (heap_lt b1) (fun e => e)).trans b1
        have e2 := (f.block _ (heap_lt b2) (fun e => e)).trans b2
        exact ⟨⟨cell_of e1 0, cell_of e1 1⟩, cell_of e2 2, cell_of e2 7, cell_of e2 8⟩
      obtain ⟨⟨p0, p1⟩, q2, q7, q8⟩ := HBX.out W (Fr.refl _ W)
      clear ebb b1 b2
      go_wp2_with fail
      go_loopw [44] (fun v44 wr => ∃ k : Nat, v44 = vI k ∧ k ≤ n ∧ Hd (Fr (fun _ => False) W wr ∧ ∀ i (h1 : i < ks.length) (h2 : i < vs.length), i < k → hasB f ks[i] vs[i] = true)) (fun v _ => match v with | .int _ q => n - q.toNat | _ => 0)
      case atStart => exact ⟨0, rfl, by omega, Fr.refl _ _, fun i _ _ hi => absurd hi (by omega)⟩
      case round =>
        obtain ⟨k, rfl, hk, HR⟩ := hrel
        by_cases hlt : k < n
        · have k0 : (0 : Int) ≤ k := by omega
          have k1 : (k : Int) < n := by omega
          have hk1 : k < ks.length := by have := EN.out.1; omega
          have hk2 : k < vs.length := by have := EN.out.2; omega
          obtain ⟨g, o, rfl, hc0⟩ := HX.out k hk1
          obtain ⟨g2, o2, rfl, hc2⟩ := HY.out k hk2
          have x0 := hc0 wr (HF.out.trans HR.out.1)
          have HCW : Hd (∀ w2, Fr (fun _ => False) wr w2 → ((w2.cell? ⟨bb, 0, none⟩ = some (.slice ad cs.length cap) ∧ w2.cell? ⟨bb, 1, none⟩ = some (.map (some mb))) ∧ w2.cell? ⟨bb + 1, 8, none⟩ = some (.slice (some ⟨g2, o2, none⟩) n vc)) ∧ w2.cell? ⟨g2, o2 + k, none⟩ = some (.string vs[k])) := fun w2 f => by
            obtain ⟨a1, -, -, a2⟩ := HBX.out w2 (HR.out.1.trans f)
            exact ⟨⟨a1, a2⟩, hc2 w2 ((HF.out.trans HR.out.1).trans f)⟩
          have hin := HCO.out.2.keys ks[k] (List.getElem_mem hk1)
          have HC2 : Hd (∀ W2, Fr (fun _ => False) wr W2 → Calls Tryz.prog 66 #[.agg #[.slice ad cs.length cap, .map (some mb)], vI ks[k], .string vs[k]] W2 fun e w' => e = .returned (.bool (hasB f ks[k] vs[k])) ∧ Fr (fun _ => False) W2 w') := fun W2 x => HS.out W2 _ _ ((HF.out.trans HR.out.1).trans x) hin
          obtain ⟨key, ekey⟩ : ∃ x, x = ks[k] := ⟨_, rfl⟩
          obtain ⟨vl, evl⟩ : ∃ x, x = vs[k] := ⟨_, rfl⟩
          have HKV : Hd (ks[k]? = some key ∧ vs[k]? = some vl) := ⟨by rw [List.getElem?_eq_getElem hk1, ekey], by rw [List.getElem?_eq_getElem hk2, evl]⟩
          rw [← ekey] at x0 HC2
          rw [← evl] at HCW HC2
          obtain ⟨B, hB⟩ : ∃ B, B = hasB f key vl := ⟨_, rfl⟩
          have EB : Hd (B = hasB f key vl) := hB
          rw [← hB] at HC2
          clear hB ekey evl hin hc0 hc2 hk1 hk2 HX HY
          go_upto_region 10 with fail
          clear x0
          refine wp_region_held_drew (S := fun W2 => Fr (fun _ => False) wr W2) (by kernel_rfl) ((Fr.refl _ wr).drew) (fun hHeld => ?_)
          refine heldTake (i := 0) 49 (v := ?_) rfl rfl (by kernel_rfl) (by kernel_rfl) (by kernel_rfl) (fun _ _ _ h => h) (by kernel_rfl) (fun w hSw => (by obtain ⟨⟨⟨p0, p1⟩, q8⟩, z1⟩ := HCW.out w hSw; go_simp; try with_reducible rfl)) hHeld ?_
          simp only [Act.put, List.setIfInBounds_toArray, List.set_cons_zero, List.set_cons_succ]
          refine heldTake (i := 1) 50 (v := ?_) rfl rfl (by kernel_rfl) (by kernel_rfl) (by kernel_rfl) (fun _ _ _ h => h) (by kernel_rfl) (fun w hSw => (by obtain ⟨⟨⟨p0, p1⟩, q8⟩, z1⟩ := HCW.out w hSw; go_simp; try with_reducible rfl)) hHeld ?_
          simp only [Act.put, List.setIfInBounds_toArray, List.set_cons_zero, List.set_cons_succ]
          refine heldTake (i := 2) 51 (v := ?_) rfl rfl (by kernel_rfl) (by kernel_rfl) (by kernel_rfl) (fun _ _ _ h => h) (by kernel_rfl) (fun w hSw => (by obtain ⟨⟨⟨p0, p1⟩, q8⟩, z1⟩ := HCW.out w hSw; go_simp; try with_reducible rfl)) hHeld ?_
          simp only [Act.put, List.setIfInBounds_toArray, List.set_cons_zero, List.set_cons_succ]
          refine heldTake (i := 3) 52 (v := ?_) rfl rfl (by kernel_rfl) (by kernel_rfl) (by kernel_rfl) (fun _ _ _ h => h) (by kernel_rfl) (fun w hSw => (by obtain ⟨⟨⟨p0, p1⟩, q8⟩, z1⟩ := HCW.out w hSw; go_simp; try with_reducible rfl)) hHeld ?_
          simp only [Act.put, List.setIfInBounds_toArray, List.set_cons_zero, List.set_cons_succ]
          refine heldTake (i := 4) 53 (v := ?_) rfl rfl (by kernel_rfl) (by kernel_rfl) (by kernel_rfl) (fun _ _ _ h => h) (by kernel_rfl) (fun w hSw => (by obtain ⟨⟨⟨p0, p1⟩, q8⟩, z1⟩ := HCW.out w hSw; go_simp; try with_reducible rfl)) hHeld ?_
          simp only [Act.put, List.setIfInBounds_toArray, List.set_cons_zero, List.set_cons_succ]
          refine heldTake (i := 5) 54 (v := ?_) rfl rfl (by kernel_rfl) (by kernel_rfl) (by kernel_rfl) (fun _ _ _ h => h) (by kernel_rfl) (fun w hSw => (by obtain ⟨⟨⟨p0, p1⟩, q8⟩, z1⟩ := HCW.out w hSw; go_simp; try with_reducible rfl)) hHeld ?_
          simp only [Act.put, List.setIfInBounds_toArray, List.set_cons_zero, List.set_cons_succ]
          refine heldTake (i := 6) 55 (v := ?_) rfl rfl (by kernel_rfl) (by kernel_rfl) (by kernel_rfl) (fun _ _ _ h => h) (by kernel_rfl) (fun w hSw => (by obtain ⟨⟨⟨p0, p1⟩, q8⟩, z1⟩ := HCW.out w hSw; go_simp; try with_reducible rfl)) hHeld ?_
          simp only [Act.put, List.setIfInBounds_toArray, List.set_cons_zero, List.set_cons_succ]
          refine heldTake (i := 7) 56 (v := ?_) rfl rfl (by kernel_rfl) (by kernel_rfl) (by kernel_rfl) (fun _ _ _ h => h) (by kernel_rfl) (fun w hSw => (by obtain ⟨⟨⟨p0, p1⟩, q8⟩, z1⟩ := HCW.out w hSw; go_simp; try with_reducible rfl)) hHeld ?_
          simp only [Act.put, List.setIfInBounds_toArray, List.set_cons_zero, List.set_cons_succ]
          refine heldOne (i := 8) rfl (by kernel_rfl) (fun K hK => ?_)
          go_simp
          go_wp2_with ((go_at_call 66; refine Calls.mono (HC2.out _ hHeld) ?_; rintro e w8 ⟨rfl, hF8⟩; have hHeld2 : Fr (fun _ => False) wr w8 := hHeld.trans hF8; clear hF8 hHeld))
          refine hK.out _ _ hHeld2 ?_
          clear hK K
          have hHeld := hHeld2
          clear hHeld2
          refine heldTake (i := 9) 58 (v := ?_) rfl rfl (by kernel_rfl) (by kernel_rfl) (by kernel_rfl) (fun _ _ _ h => h) (by kernel_rfl) (fun w hSw => (by obtain ⟨⟨⟨p0, p1⟩, q8⟩, z1⟩ := HCW.out w hSw; go_simp; try with_reducible rfl)) hHeld ?_
          simp only [Act.put, List.setIfInBounds_toArray, List.set_cons_zero, List.set_cons_succ]
          refine wpAnyH_done (by kernel_rfl) ?_ _
          have HG : Hd (Fr (fun _ => False) wr w8) := hHeld
          clear hHeld HC2
          cases B
          · go_wp2_with fail
            go_ret
            refine ⟨?_, HF.out.trans (HR.out.1.trans HG.out)⟩
            have : A = false := by
              rw [EA.out, Bool.eq_false_iff]
              intro h
              rw [List.all_eq_true] at h
              obtain ⟨h1, e1⟩ := List.getElem?_eq_some_iff.1 HKV.out.1
              obtain ⟨h2, e2⟩ := List.getElem?_eq_some_iff.1 HKV.out.2
              have := h (ks[k], vs[k]) (List.mem_iff_getElem.2 ⟨k, by rw [List.length_zip]; omega, by rw [List.getElem_zip]⟩)
              rw [e1, e2, ← EB.out] at this
              cases this
            rw [this]
            rfl
          · go_wp2_with fail
            refine ⟨⟨k + 1, by simp, by omega, HR.out.1.trans HG.out, fun i h1 h2 hi => ?_⟩, by simp; omega⟩
            rcases Nat.lt_or_ge i k with h3 | h3
            · exact HR.out.2 i h1 h2 h3
            · have e : i = k := by omega
              subst e
              obtain ⟨h1, e1⟩ := List.getElem?_eq_some_iff.1 HKV.out.1
              obtain ⟨h2, e2⟩ := List.getElem?_eq_some_iff.1 HKV.out.2
              rw [e1, e2]
              exact EB.out.symm
        · have HA : Hd (A = true) := by
            show A = true
            rw [EA.out, List.all_eq_true]
            intro p hp
            obtain ⟨i, hi, e⟩ := List.mem_iff_getElem.1 hp
            rw [List.length_zip] at hi
            rw [List.getElem_zip] at e
            rw [← e]
            exact HR.out.2 i (by omega) (by omega) (by have := EN.out; omega)
          go_wp2_with fail
          go_ret
          exact ⟨by rw [HA.out]; rfl, HF.out.trans HR.out.1⟩
end Go.Proofs.YtihicdbplmdjiaaGreat
