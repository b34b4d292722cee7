import Derived.Test.YtihicdbplmdjiaaQB1J
import Derived.Test.YtihicdbplmdjiaaQA8J
namespace Go.Proofs.Ytihicdbplmdjiaa
open Go.RowKit (wrap32 wrap64)
set_option linter.unusedVariables false
set_option linter.unusedSimpArgs false

/-! ### the least call that waits for none that is left -/
def freeB (s : Nat) (ws : List Nat) (i : Nat) : Bool := s.testBit i && decide (s &&& ws.getD i 0 = 0)
def leastX (s : Nat) (ws : List Nat) : Option Nat := (List.range ws.length).find? (freeB s ws)
theorem leastX_some {s : Nat} {ws : List Nat} {k : Nat} (hk : k < ws.length) (h : freeB s ws k = true) (h2 : ∀ i, i < k → freeB s ws i = false) : leastX s ws = some k := by
  unfold leastX
  rw [List.find?_eq_some_iff_append]
  refine ⟨h, List.range k, (List.range ws.length).drop (k + 1), ?_, fun a ha => by rw [h2 a (List.mem_range.1 ha)]; rfl⟩
  have e1 : List.range ws.length = (List.range ws.length).take k ++ (List.range ws.length).drop k := (List.take_append_drop _ _).symm
  rw [List.drop_eq_getElem_cons (by simpa using hk), List.getElem_range, List.take_range, Nat.min_eq_left (by omega)] at e1
  exact e1
theorem leastX_none {s : Nat} {ws : List Nat} (h2 : ∀ i, i < ws.length → freeB s ws i = false) : leastX s ws = none := by
  unfold leastX
  rw [List.find?_eq_none]
  intro a ha
  rw [h2 a (List.mem_range.1 ha)]
  simp
def leastI (s : Nat) (ws : List Nat) : Int := match leastX s ws with | some i => (i : Int) | none => -1

set_option maxRecDepth 100000 in
set_option maxHeartbeats 4000000 in
theorem leastFree_any (s : Nat) (v : Value) (ws : List Nat) (w : World) (h : RowAt w v (ws.map vS)) (hs : s < 18446744073709551616) (hw : ∀ x ∈ ws, x < 18446744073709551616) (hl : ws.length ≤ 64) :
    Calls Try.prog 44 #[vS s, v] w fun e w' => e = .returned (vI (leastI s ws)) ∧ Fr (fun _ => False) w w' := by
  obtain ⟨ad, cap, rfl, h1⟩ := h
  simp only [List.length_map] at h1 ⊢
  obtain ⟨n, hn⟩ : ∃ n, n = ws.length := ⟨_, rfl⟩
  have HN : Hd (n = ws.length ∧ s < 18446744073709551616 ∧ ∀ x ∈ ws, x < 18446744073709551616) := ⟨hn, hs, hw⟩
  have H1 : Hd (∀ j (h : j < ws.length), ∃ k o, ad = some ⟨k, o, none⟩ ∧ w.cell? ⟨k, o + j, none⟩ = some (vS ws[j])) := fun j hj => by
    obtain ⟨k, o, e1, e3⟩ := h1 (by intro e; rw [List.map_eq_nil_iff] at e; subst e; simp at hj)
    exact ⟨k, o, e1, by rw [e3 j (by simpa using hj)]; simp⟩
  have HH : Hd (∀ (i : Nat) (W : World), i < 64 → Calls Try.prog 59 #[vS s, vI i] W fun e w' => e = .returned (.bool (s.testBit i)) ∧ w' = W) := fun i W hi => has_any s i W hs hi
  obtain ⟨L, hL⟩ : ∃ L, L = leastI s ws := ⟨_, rfl⟩
  have EL : Hd (L = leastI s ws) := hL
  rw [← hn] at hl ⊢
  rw [← hL]
  clear h1 hn hs hw hL
  go_enter Try.func44, Try.ntmps44
  go_wp2_with fail
  go_loopw [9] (fun v wr => ∃ k : Nat, v = vI k ∧ k ≤ n ∧ Hd (Fr (fun _ => False) w wr ∧ ∀ i, i < k → freeB s ws i = false)) (fun v _ => match v with | .int _ q => n - q.toNat | _ => 0)
  case atStart => exact ⟨0, rfl, by omega, Fr.refl _ _, fun i hi => absurd hi (by omega)⟩
  case round =>
    obtain ⟨k, rfl, hk, HR⟩ := hrel
    by_cases hlt : k < n
    · have k0 : (0 : Int) ≤ k := by omega
      have k1 : (k : Int) < n := by omega
      have hkl : k < ws.length := by rw [← HN.out.1]; exact hlt
      obtain ⟨g, o, rfl, hc⟩ := H1.out k hkl
      have x0 : wr.cell? ⟨g, o + k, none⟩ = some (vS ws[k]) := (HR.out.1.cell (cell_lt hc) (fun e => e)).trans hc
      obtain ⟨x, ex⟩ : ∃ x, x = ws[k] := ⟨_, rfl⟩
      rw [← ex] at x0
      have hx : x < 18446744073709551616 := by rw [ex]; exact HN.out.2.2 _ (List.getElem_mem hkl)
      have HX : Hd (ws.getD k 0 = x ∧ k < ws.length) := ⟨by rw [List.getD_eq_getElem?_getD, List.getElem?_eq_getElem hkl, ex]; rfl, hkl⟩
      have q1 : bits .and .u64 (s : Int) (x : Int) = ((s &&& x : Nat) : Int) := bits_and_u64_nat _ _ HN.out.2.1 hx
      have HC : Calls Try.prog 59 #[vS s, vI k] wr fun e w' => e = .returned (.bool (s.testBit k)) ∧ w' = wr := HH.out k wr (by omega)
      obtain ⟨B, hB⟩ : ∃ B, B = s.testBit k := ⟨_, rfl⟩
      have EB : Hd (B = s.testBit k) := hB
      rw [← hB] at HC
      obtain ⟨a, ha⟩ : ∃ a, a = s &&& x := ⟨_, rfl⟩
      have EA : Hd (a = s &&& x) := ha
      rw [← ha] at q1
      have HC2 : Hd (Calls Try.prog 59 #[vS s, vI k] wr fun e w' => e = .returned (.bool B) ∧ w' = wr) := HC
      clear hB ha hx ex hc hkl HC H1
      cases B
      · go_wp2_with (go_at_call 59; refine HC2.out.mono ?_; rintro _ w3 ⟨rfl, rfl⟩)
        refine ⟨⟨k + 1, by simp, by omega, HR.out.1, fun i hi => ?_⟩, by simp; omega⟩
        rcases Nat.lt_or_ge i k with h2 | h2
        · exact HR.out.2 i h2
        · have e : i = k := by omega
          subst e
          unfold freeB
          rw [← EB.out]; rfl
      · by_cases ha : a = 0
        · subst ha
          go_wp2_with (go_at_call 59; refine HC2.out.mono ?_; rintro _ w3 ⟨rfl, rfl⟩)
          go_ret
          refine ⟨?_, HR.out.1⟩
          have : leastX s ws = some k := leastX_some HX.out.2 (by unfold freeB; rw [← EB.out, HX.out.1, ← EA.out]; simp) HR.out.2
          rw [EL.out]
          unfold leastI
          rw [this]
          rfl
        · have ha2 : ¬ (a : Int) = 0 := by omega
          have ha3 : ((a : Int) == 0) = false := by simpa using ha
          go_wp2_with (go_at_call 59; refine HC2.out.mono ?_; rintro _ w3 ⟨rfl, rfl⟩)
          refine ⟨⟨k + 1, by simp, by omega, HR.out.1, fun i hi => ?_⟩, by simp; omega⟩
          rcases Nat.lt_or_ge i k with h2 | h2
          · exact HR.out.2 i h2
          · have e : i = k := by omega
            subst e
            unfold freeB
            rw [HX.out.1, ← EA.out]
            simp [ha]
    · have e : k = ws.length := by have := HN.out.1; omega
      have HE : Hd (L = -1) := by
        have : leastX s ws = none := leastX_none (fun i hi => HR.out.2 i (by omega))
        rw [EL.out]
        unfold leastI
        rw [this]
        rfl
      clear e
      go_wp2_with fail
      go_ret
      exact ⟨by rw [HE.out]; rfl, HR.out.1⟩
end Go.Proofs.Ytihicdbplmdjiaa

namespace Go.Proofs.Ytihicdbplmdjiaa
open Go.RowKit (wrap32 wrap64)
set_option linter.unusedVariables false
set_option linter.unusedSimpArgs false

/-! ### is each value that an answer tells the one that was published? -/
def hasB (f : Mk) (key : Int) (val : ByteArray) : Bool := match f key with | some c => decide (c.v.toList = val.toList) | none => false
/-- What past holds: the calls, and by key the one that made its value. -/
structure PAt (w : World) (lv : Value) (mb N : Nat) (cs : List Cl) (f : Mk) : Prop where
  cat : CAt w lv cs
  map : MdM w mb N f
  ats : ∀ q c, f q = some c → c.R.At w
theorem PAt.fr {w w' : World} {lv : Value} {mb N : Nat} {cs : List Cl} {f : Mk} (h : PAt w lv mb N cs f) (x : Fr (fun _ => False) w w') : PAt w' lv mb N cs f :=
  ⟨h.cat.fr x, h.map.fr x (fun e => e), fun q c e => (h.ats q c e).fr x⟩
def pV (lv : Value) (mb : Nat) : Value := .agg #[lv, .map (some mb)]

set_option maxHeartbeats 2000000 in
theorem has61 (lv : Value) (mb N : Nat) (cs : List Cl) (f : Mk) (key : Int) (val : ByteArray) (w : World) (h : PAt w lv mb N cs f) (hk : In64 key) :
    Calls Try.prog 61 #[pV lv mb, vI key, .string val] w fun e w' => e = .returned (.bool (hasB f key val)) ∧ Fr (fun _ => False) w w' := by
  obtain ⟨ad, cap, rfl, -⟩ := h.cat
  unfold pV hasB
  have HF : Hd (Fr (fun _ => False) w (w.alloc (.cells #[.slice ad cs.length cap, .map (some mb)] 54))) := (Fr.refl _ w).alloc _
  have hm := h.map.fr HF.out (fun e => e)
  cases hf : f key with
  | none =>
    have hq := hm.out hk hf
    unfold zeroC at hq
    clear hm h hf
    go_enter Try.func61, Try.ntmps61
    go_wp2_with fail
    go_ret
    exact ⟨rfl, HF.out.alloc _⟩
  | some c =>
    have hq := hm.in_ hk hf
    obtain ⟨ka, kc, ek⟩ := row_slice (h.ats key c hf).1
    obtain ⟨va, vc, ev⟩ := row_slice (h.ats key c hf).2
    unfold Cl.V c9 at hq
    obtain ⟨b, en', kd, ky, v, ⟨⟨ok, v2, ks, vs⟩, kv, vv⟩⟩ := c
    simp only [List.length_map] at hq ek ev ⊢
    subst ek ev
    clear hm h hf
    by_cases hv : v.toList = val.toList
    · go_enter Try.func61, Try.ntmps61
      go_wp2_with fail
      go_ret
      exact ⟨by simp [hv], HF.out.alloc _⟩
    · go_enter Try.func61, Try.ntmps61
      go_wp2_with fail
      go_ret
      exact ⟨by simp [hv], HF.out.alloc _⟩
end Go.Proofs.Ytihicdbplmdjiaa

namespace Go.Proofs.Ytihicdbplmdjiaa
open Go.RowKit (wrap32 wrap64)
set_option linter.unusedVariables false
set_option linter.unusedSimpArgs false

def canTellB (f : Mk) (c : Cl) : Bool := if c.kd = 1 then (f c.ky).isSome else if c.kd = 2 then !c.R.r.ok || hasB f c.ky c.R.r.val else (c.R.r.keys.zip c.R.r.vals).all (fun p => hasB f p.1 p.2)
set_option maxRecDepth 100000 in
set_option maxHeartbeats 4000000 in
theorem canTell_any (lv : Value) (mb N : Nat) (cs : List Cl) (f : Mk) (c : Cl) (w : World) (h : PAt w lv mb N cs f) (hc : c.R.At w) (hk : COk c) :
    Calls Try.prog 56 #[pV lv mb, c.V] w fun e w' => e = .returned (.bool (canTellB f c)) ∧ Fr (fun _ => False) w w' := by
  have HS : Hd (∀ W key val, Fr (fun _ => False) w W → In64 key → Calls Try.prog 61 #[pV lv mb, vI key, .string val] W fun e w' => e = .returned (.bool (hasB f key val)) ∧ Fr (fun _ => False) W w') := fun W key val x hk => has61 lv mb N cs f key val W (h.fr x) hk
  have HP : Hd (∀ W, Fr (fun _ => False) w W → MdM W mb N f ∧ ∀ q d, f q = some d → d.R.At W) := fun W x => ⟨(h.fr x).map, (h.fr x).ats⟩
  obtain ⟨ad, cap, rfl, -⟩ := h.cat
  have HCO : Hd (c.R.At w ∧ COk c) := ⟨hc, hk⟩
  obtain ⟨ka, kc, ek⟩ := row_slice hc.1
  obtain ⟨va, vc, ev⟩ := row_slice hc.2
  unfold pV at *
  unfold Cl.V c9
  obtain ⟨b, en', kd, ky, v, ⟨⟨ok, val, ks, vs⟩, kv, vv⟩⟩ := c
  unfold canTellB
  simp only [List.length_map] at ek ev ⊢
  subst ek ev
  clear h hc hk
  have HF : Hd (Fr (fun _ => False) w ((w.alloc (.cells #[.slice ad cs.length cap, .map (some mb)] 54)).alloc (.cells #[vI b, vI en', vI kd, vI ky, .string v, .bool ok, .string val, .slice ka ks.length kc, .slice va vs.length vc] 75))) := ((Fr.refl _ w).alloc _).alloc _
  by_cases h1 : kd = 1
  · subst h1
    have hm := (HP.out _ HF.out).1
    have ha := (HP.out _ HF.out).2 ky
    cases hf : f ky with
    | none =>
      have hq := hm.out HCO.out.2.ky hf
      unfold zeroC at hq
      clear hm ha hf
      go_enter Try.func56, Try.ntmps56
      go_wp2_with fail
      go_ret
      exact ⟨by simp, HF.out.alloc _⟩
    | some d =>
      have hq := hm.in_ HCO.out.2.ky hf
      have hd := ha d hf
      obtain ⟨ka', kc', ek⟩ := row_slice hd.1
      obtain ⟨va', vc', ev⟩ := row_slice hd.2
      unfold Cl.V c9 at hq
      obtain ⟨b', en2, kd', ky', v', ⟨⟨ok', v2, ks', vs'⟩, kv, vv⟩⟩ := d
      simp only [List.length_map] at hq ek ev ⊢
      subst ek ev
      clear hm ha hf hd
      go_enter Try.func56, Try.ntmps56
      go_wp2_with fail
      go_ret
      exact ⟨by simp, HF.out.alloc _⟩
  · by_cases h2 : kd = 2
    · subst h2
      have hc := HS.out _ ky val HF.out HCO.out.2.ky
      obtain ⟨B, hB⟩ : ∃ B, B = hasB f ky val := ⟨_, rfl⟩
      rw [← hB] at hc ⊢
      clear hB
      cases ok
      · go_enter Try.func56, Try.ntmps56
        go_wp2_with fail
        go_ret
        exact ⟨by simp, HF.out⟩
      · go_enter Try.func56, Try.ntmps56
        go_wp2_with (go_at_call 61; refine hc.mono ?_; rintro _ w3 ⟨rfl, hf3⟩; have HF3 : Hd _ := hf3; clear hf3)
        go_ret
        exact ⟨by simp, HF.out.trans HF3.out⟩
    · have h3 : kd = 3 := by rcases HCO.out.2.kinds with e | e | e; exact absurd e h1; exact absurd e h2; exact e
      subst h3
      have hvl : vs.length = ks.length := HCO.out.2.fine.vlen rfl
      have hkl : ks.length ≤ 1000000000000000000 := HCO.out.2.fine.len
      obtain ⟨n, en⟩ : ∃ n, n = ks.length := ⟨_, rfl⟩
      have EN : Hd (n = ks.length ∧ n = vs.length) := ⟨en, by omega⟩
      rw [hvl] at HF ⊢
      rw [← en] at HF hkl ⊢
      have HX : Hd (∀ i (hi : i < ks.length), ∃ g o, ka = some ⟨g, o, none⟩ ∧ ∀ W, Fr (fun _ => False) w W → W.cell? ⟨g, o + i, none⟩ = some (vI ks[i])) := fun i hi => by
        obtain ⟨a, cc, e, hx⟩ := HCO.out.1.1
        obtain ⟨g, o, ea, hx⟩ := hx (fun e => by rw [List.map_eq_nil_iff] at e; subst e; simp at hi)
        have e1 : ka = a := by injection e
        have := hx i (by simpa using hi)
        rw [List.getElem_map] at this
        exact ⟨g, o, by rw [e1, ea], fun W f => (f.cell (cell_lt this) (fun e => e)).trans this⟩
      have HY : Hd (∀ i (hi : i < vs.length), ∃ g o, va = some ⟨g, o, none⟩ ∧ ∀ W, Fr (fun _ => False) w W → W.cell? ⟨g, o + i, none⟩ = some (.string vs[i])) := fun i hi => by
        obtain ⟨a, cc, e, hx⟩ := HCO.out.1.2
        obtain ⟨g, o, ea, hx⟩ := hx (fun e => by rw [List.map_eq_nil_iff] at e; subst e; simp at hi)
        have e1 : va = a := by injection e
        have := hx i (by simpa using hi)
        rw [List.getElem_map] at this
        exact ⟨g, o, by rw [e1, ea], fun W f => (f.cell (cell_lt this) (fun e => e)).trans this⟩
      obtain ⟨A, hA⟩ : ∃ A, A = (ks.zip vs).all (fun p => hasB f p.1 p.2) := ⟨_, rfl⟩
      have EA : Hd (A = (ks.zip vs).all (fun p => hasB f p.1 p.2)) := hA
      rw [← hA]
      have b1 : ((w.alloc (.cells #[.slice ad cs.length cap, .map (some mb)] 54)).alloc (.cells #[vI b, vI en', vI 3, vI ky, .string v, .bool ok, .string val, .slice ka n kc, .slice va n vc] 75)).heap[w.heap.size]? = some (.cells #[.slice ad cs.length cap, .map (some mb)] 54) := by
        rw [Go.RowKit.Below.heap_alloc _ _ _ (by simp)]; exact heap_alloc_last w _
      have b2 : ((w.alloc (.cells #[.slice ad cs.length cap, .map (some mb)] 54)).alloc (.cells #[vI b, vI en', vI 3, vI ky, .string v, .bool ok, .string val, .slice ka n kc, .slice va n vc] 75)).heap[w.heap.size + 1]? = some (.cells #[vI b, vI en', vI 3, vI ky, .string v, .bool ok, .string val, .slice ka n kc, .slice va n vc] 75) := by
        have := heap_alloc_last (w.alloc (.cells #[.slice ad cs.length cap, .map (some mb)] 54)) (.cells #[vI b, vI en', vI 3, vI ky, .string v, .bool ok, .string val, .slice ka n kc, .slice va n vc] 75)
        rw [show (w.alloc (.cells #[.slice ad cs.length cap, .map (some mb)] 54)).heap.size = w.heap.size + 1 by simp] at this
        exact this
      obtain ⟨W, eW⟩ : ∃ W, W = ((w.alloc (.cells #[.slice ad cs.length cap, .map (some mb)] 54)).alloc (.cells #[vI b, vI en', vI 3, vI ky, .string v, .bool ok, .string val, .slice ka n kc, .slice va n vc] 75)) := ⟨_, rfl⟩
      rw [← eW] at HF b1 b2
      clear hA en hvl HP h1 h2
      go_enter Try.func56, Try.ntmps56
      go_upto_region 1 with fail
      rw [← eW]
      clear eW
      obtain ⟨bb, ebb⟩ : ∃ bb, bb = w.heap.size := ⟨_, rfl⟩
      rw [← ebb] at b1 b2 ⊢
      have HBX : Hd (∀ W2, Fr (fun _ => False) W W2 → (W2.cell? ⟨bb, 0, none⟩ = some (.slice ad cs.length cap) ∧ W2.cell? ⟨bb, 1, none⟩ = some (.map (some mb))) ∧ W2.cell? ⟨bb + 1, 2, none⟩ = some (vI 3) ∧ W2.cell? ⟨bb + 1, 7, none⟩ = some (.slice ka n kc) ∧ W2.cell? ⟨bb + 1, 8, none⟩ = some (.slice va n vc)) := fun W2 f => by
        have e1 := (f.block _ (heap_lt b1) (fun e => e)).trans b1
        have e2 := (f.block _ (heap_lt b2) (fun e => e)).trans b2
        exact ⟨⟨cell_of e1 0, cell_of e1 1⟩, cell_of e2 2, cell_of e2 7, cell_of e2 8⟩
      obtain ⟨⟨p0, p1⟩, q2, q7, q8⟩ := HBX.out W (Fr.refl _ W)
      clear ebb b1 b2
      go_wp2_with fail
      go_loopw [44] (fun v44 wr => ∃ k : Nat, v44 = vI k ∧ k ≤ n ∧ Hd (Fr (fun _ => False) W wr ∧ ∀ i (h1 : i < ks.length) (h2 : i < vs.length), i < k → hasB f ks[i] vs[i] = true)) (fun v _ => match v with | .int _ q => n - q.toNat | _ => 0)
      case atStart => exact ⟨0, rfl, by omega, Fr.refl _ _, fun i _ _ hi => absurd hi (by omega)⟩
      case round =>
        obtain ⟨k, rfl, hk, HR⟩ := hrel
        by_cases hlt : k < n
        · have k0 : (0 : Int) ≤ k := by omega
          have k1 : (k : Int) < n := by omega
          have hk1 : k < ks.length := by have := EN.out.1; omega
          have hk2 : k < vs.length := by have := EN.out.2; omega
          obtain ⟨g, o, rfl, hc0⟩ := HX.out k hk1
          obtain ⟨g2, o2, rfl, hc2⟩ := HY.out k hk2
          have x0 := hc0 wr (HF.out.trans HR.out.1)
          have HCW : Hd (∀ w2, Fr (fun _ => False) wr w2 → ((w2.cell? ⟨bb, 0, none⟩ = some (.slice ad cs.length cap) ∧ w2.cell? ⟨bb, 1, none⟩ = some (.map (some mb))) ∧ w2.cell? ⟨bb + 1, 8, none⟩ = some (.slice (some ⟨g2, o2, none⟩) n vc)) ∧ w2.cell? ⟨g2, o2 + k, none⟩ = some (.string vs[k])) := fun w2 f => by
            obtain ⟨a1, -, -, a2⟩ := HBX.out w2 (HR.out.1.trans f)
            exact ⟨⟨a1, a2⟩, hc2 w2 ((HF.out.trans HR.out.1).trans f)⟩
          have hin := HCO.out.2.keys ks[k] (List.getElem_mem hk1)
          have HC2 : Hd (∀ W2, Fr (fun _ => False) wr W2 → Calls Try.prog 61 #[.agg #[.slice ad cs.length cap, .map (some mb)], vI ks[k], .string vs[k]] W2 fun e w' => e = .returned (.bool (hasB f ks[k] vs[k])) ∧ Fr (fun _ => False) W2 w') := fun W2 x => HS.out W2 _ _ ((HF.out.trans HR.out.1).trans x) hin
          obtain ⟨key, ekey⟩ : ∃ x, x = ks[k] := ⟨_, rfl⟩
          obtain ⟨vl, evl⟩ : ∃ x, x = vs[k] := ⟨_, rfl⟩
          have HKV : Hd (ks[k]? = some key ∧ vs[k]? = some vl) := ⟨by rw [List.getElem?_eq_getElem hk1, ekey], by rw [List.getElem?_eq_getElem hk2, evl]⟩
          rw [← ekey] at x0 HC2
          rw [← evl] at HCW HC2
          obtain ⟨B, hB⟩ : ∃ B, B = hasB f key vl := ⟨_, rfl⟩
          have EB : Hd (B = hasB f key vl) := hB
          rw [← hB] at HC2
          clear hB ekey evl hin hc0 hc2 hk1 hk2 HX HY
          go_upto_region 10 with fail
          clear x0
          refine wp_region_held_drew (S := fun W2 => Fr (fun _ => False) wr W2) (by kernel_rfl) ((Fr.refl _ wr).drew) (fun hHeld => ?_)
          refine heldTake (i := 0) 49 (v := ?_) rfl rfl (by kernel_rfl) (by kernel_rfl) (by kernel_rfl) (fun _ _ _ h => h) (by kernel_rfl) (fun w hSw => (by obtain ⟨⟨⟨p0, p1⟩, q8⟩, z1⟩ := HCW.out w hSw; go_simp; try with_reducible rfl)) hHeld ?_
          simp only [Act.put, List.setIfInBounds_toArray, List.set_cons_zero, List.set_cons_succ]
          refine heldTake (i := 1) 50 (v := ?_) rfl rfl (by kernel_rfl) (by kernel_rfl) (by kernel_rfl) (fun _ _ _ h => h) (by kernel_rfl) (fun w hSw => (by obtain ⟨⟨⟨p0, p1⟩, q8⟩, z1⟩ := HCW.out w hSw; go_simp; try with_reducible rfl)) hHeld ?_
          simp only [Act.put, List.setIfInBounds_toArray, List.set_cons_zero, List.set_cons_succ]
          refine heldTake (i := 2) 51 (v := ?_) rfl rfl (by kernel_rfl) (by kernel_rfl) (by kernel_rfl) (fun _ _ _ h => h) (by kernel_rfl) (fun w hSw => (by obtain ⟨⟨⟨p0, p1⟩, q8⟩, z1⟩ := HCW.out w hSw; go_simp; try with_reducible rfl)) hHeld ?_
          simp only [Act.put, List.setIfInBounds_toArray, List.set_cons_zero, List.set_cons_succ]
          refine heldTake (i := 3) 52 (v := ?_) rfl rfl (by kernel_rfl) (by kernel_rfl) (by kernel_rfl) (fun _ _ _ h => h) (by kernel_rfl) (fun w hSw => (by obtain ⟨⟨⟨p0, p1⟩, q8⟩, z1⟩ := HCW.out w hSw; go_simp; try with_reducible rfl)) hHeld ?_
          simp only [Act.put, List.setIfInBounds_toArray, List.set_cons_zero, List.set_cons_succ]
          refine heldTake (i := 4) 53 (v := ?_) rfl rfl (by kernel_rfl) (by kernel_rfl) (by kernel_rfl) (fun _ _ _ h => h) (by kernel_rfl) (fun w hSw => (by obtain ⟨⟨⟨p0, p1⟩, q8⟩, z1⟩ := HCW.out w hSw; go_simp; try with_reducible rfl)) hHeld ?_
          simp only [Act.put, List.setIfInBounds_toArray, List.set_cons_zero, List.set_cons_succ]
          refine heldTake (i := 5) 54 (v := ?_) rfl rfl (by kernel_rfl) (by kernel_rfl) (by kernel_rfl) (fun _ _ _ h => h) (by kernel_rfl) (fun w hSw => (by obtain ⟨⟨⟨p0, p1⟩, q8⟩, z1⟩ := HCW.out w hSw; go_simp; try with_reducible rfl)) hHeld ?_
          simp only [Act.put, List.setIfInBounds_toArray, List.set_cons_zero, List.set_cons_succ]
          refine heldTake (i := 6) 55 (v := ?_) rfl rfl (by kernel_rfl) (by kernel_rfl) (by kernel_rfl) (fun _ _ _ h => h) (by kernel_rfl) (fun w hSw => (by obtain ⟨⟨⟨p0, p1⟩, q8⟩, z1⟩ := HCW.out w hSw; go_simp; try with_reducible rfl)) hHeld ?_
          simp only [Act.put, List.setIfInBounds_toArray, List.set_cons_zero, List.set_cons_succ]
          refine heldTake (i := 7) 56 (v := ?_) rfl rfl (by kernel_rfl) (by kernel_rfl) (by kernel_rfl) (fun _ _ _ h => h) (by kernel_rfl) (fun w hSw => (by obtain ⟨⟨⟨p0, p1⟩, q8⟩, z1⟩ := HCW.out w hSw; go_simp; try with_reducible rfl)) hHeld ?_
          simp only [Act.put, List.setIfInBounds_toArray, List.set_cons_zero, List.set_cons_succ]
          refine heldOne (i := 8) rfl (by kernel_rfl) (fun K hK => ?_)
          go_simp
          go_wp2_with ((go_at_call 61; refine Calls.mono (HC2.out _ hHeld) ?_; rintro e w8 ⟨rfl, hF8⟩; have hHeld2 : Fr (fun _ => False) wr w8 := hHeld.trans hF8; clear hF8 hHeld))
          refine hK.out _ _ hHeld2 ?_
          clear hK K
          have hHeld := hHeld2
          clear hHeld2
          refine heldTake (i := 9) 58 (v := ?_) rfl rfl (by kernel_rfl) (by kernel_rfl) (by kernel_rfl) (fun _ _ _ h => h) (by kernel_rfl) (fun w hSw => (by obtain ⟨⟨⟨p0, p1⟩, q8⟩, z1⟩ := HCW.out w hSw; go_simp; try with_reducible rfl)) hHeld ?_
          simp only [Act.put, List.setIfInBounds_toArray, List.set_cons_zero, List.set_cons_succ]
          refine wpAnyH_done (by kernel_rfl) ?_ _
          have HG : Hd (Fr (fun _ => False) wr w8) := hHeld
          clear hHeld HC2
          cases B
          · go_wp2_with fail
            go_ret
            refine ⟨?_, HF.out.trans (HR.out.1.trans HG.out)⟩
            have : A = false := by
              rw [EA.out, Bool.eq_false_iff]
              intro h
              rw [List.all_eq_true] at h
              obtain ⟨h1, e1⟩ := List.getElem?_eq_some_iff.1 HKV.out.1
              obtain ⟨h2, e2⟩ := List.getElem?_eq_some_iff.1 HKV.out.2
              have := h (ks[k], vs[k]) (List.mem_iff_getElem.2 ⟨k, by rw [List.length_zip]; omega, by rw [List.getElem_zip]⟩)
              rw [e1, e2, ← EB.out] at this
              cases this
            rw [this]
            rfl
          · go_wp2_with fail
            refine ⟨⟨k + 1, by simp, by omega, HR.out.1.trans HG.out, fun i h1 h2 hi => ?_⟩, by simp; omega⟩
            rcases Nat.lt_or_ge i k with h3 | h3
            · exact HR.out.2 i h1 h2 h3
            · have e : i = k := by omega
              subst e
              obtain ⟨h1, e1⟩ := List.getElem?_eq_some_iff.1 HKV.out.1
              obtain ⟨h2, e2⟩ := List.getElem?_eq_some_iff.1 HKV.out.2
              rw [e1, e2]
              exact EB.out.symm
        · have HA : Hd (A = true) := by
            show A = true
            rw [EA.out, List.all_eq_true]
            intro p hp
            obtain ⟨i, hi, e⟩ := List.mem_iff_getElem.1 hp
            rw [List.length_zip] at hi
            rw [List.getElem_zip] at e
            rw [← e]
            exact HR.out.2 i (by omega) (by omega) (by have := EN.out; omega)
          go_wp2_with fail
          go_ret
          exact ⟨by rw [HA.out]; rfl, HF.out.trans HR.out.1⟩
end Go.Proofs.Ytihicdbplmdjiaa
