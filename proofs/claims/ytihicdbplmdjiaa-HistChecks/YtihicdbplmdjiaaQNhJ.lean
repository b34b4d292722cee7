import Derived.Test.YtihicdbplmdjiaaQNfJ
import Derived.Carry
namespace Go.Proofs.Ytihicdbplmdjiaa
open Go.RowKit (wrap32 wrap64)
set_option linter.unusedVariables false
set_option linter.unusedSimpArgs false

/-! ### moments change places -/
theorem flatten_set {α : Type} {n : Nat} : ∀ {l : List (List α)}, (∀ r ∈ l, r.length = n) → ∀ (i : Nat) (hi : i < l.length) (j : Nat), j < n → ∀ u, l.flatten.set (i * n + j) u = (l.set i (l[i].set j u)).flatten
  | [], _, i, hi, _, _, _ => absurd hi (by simp)
  | a :: l, h, 0, _, j, hj, u => by
    have ha : a.length = n := h a (by simp)
    rw [List.flatten_cons, Nat.zero_mul, Nat.zero_add, List.set_append_left _ _ (by omega)]
    rfl
  | a :: l, h, i + 1, hi, j, hj, u => by
    have ha : a.length = n := h a (by simp)
    rw [List.flatten_cons, show (i + 1) * n + j = n + (i * n + j) by rw [Nat.succ_mul]; omega, List.set_append_right _ _ (by omega), ha, show n + (i * n + j) - n = i * n + j by omega, flatten_set (fun r hr => h r (by simp [hr])) i (by simpa using hi) j hj u]
    rfl
/-- Rows of nine cells in a row of one's own. -/
def Rw (w : World) (B : Nat) (v : Value) (l : List (List Value)) : Prop := w.ownsRow B 30 9 v l.length l.flatten ∧ ∀ r ∈ l, r.length = 9
theorem Rw.put {w : World} {B g n cap : Nat} {l : List (List Value)} (h : Rw w B (.slice (some ⟨g, 0, none⟩) n cap) l) (i : Nat) (hi : i < l.length) (j : Nat) (hj : j < 9) (u : Value) : Rw (w.setCell ⟨g, i * 9 + j, none⟩ u) B (.slice (some ⟨g, 0, none⟩) n cap) (l.set i (l[i].set j u)) := by
  obtain ⟨⟨h0, h1⟩, h9⟩ := h
  refine ⟨?_, fun r hr => ?_⟩
  · rcases h1 with ⟨e1, -⟩ | ⟨g', cap', cur, e1, k1, k2, k3, k4, k5, k6⟩
    · cases e1
    · cases e1
      refine ⟨by rw [← flatten_set h9 i hi j hj u, List.length_set, List.length_set]; exact h0, Or.inr ⟨g, cap, cur.setIfInBounds (i * 9 + j) u, by rw [List.length_set], k1, set_of k2 _ u, by rw [List.length_set]; exact k3, k4, by simpa using k5, ?_⟩⟩
      rw [← flatten_set h9 i hi j hj u, ← k6, Array.toList_setIfInBounds, List.take_set, List.length_set]
  · rcases List.mem_or_eq_of_mem_set hr with hr | rfl
    · exact h9 r hr
    · rw [List.length_set]; exact h9 _ (List.getElem_mem hi)
theorem ms_rw {w : World} {B : Nat} {v : Value} {ms : List Mo} : MsOwn w B v ms ↔ Rw w B v (ms.map m9) := by
  unfold MsOwn Rw
  rw [List.length_map]
  exact ⟨fun h => ⟨h, fun r hr => by obtain ⟨m, -, rfl⟩ := List.mem_map.1 hr; rfl⟩, fun h => h.1⟩
/-- A moment is written over. -/
theorem ms_put {w : World} {B g n cap : Nat} {ms : List Mo} (h : MsOwn w B (.slice (some ⟨g, 0, none⟩) n cap) ms) (i : Nat) (hi : i < ms.length) (m : Mo) :
    MsOwn (((((((((w.setCell ⟨g, i * 9, none⟩ (vI m.c)).setCell ⟨g, i * 9 + 1, none⟩ (.bool m.beg)).setCell ⟨g, i * 9 + 2, none⟩ (vI m.kd)).setCell ⟨g, i * 9 + 3, none⟩ (vI m.ky)).setCell ⟨g, i * 9 + 4, none⟩ (.string m.v)).setCell ⟨g, i * 9 + 5, none⟩ (.bool m.R.r.ok)).setCell ⟨g, i * 9 + 6, none⟩ (.string m.R.r.val)).setCell ⟨g, i * 9 + 7, none⟩ m.R.kv).setCell ⟨g, i * 9 + 8, none⟩ m.R.vv) B (.slice (some ⟨g, 0, none⟩) n cap) (ms.set i m) := by
  rw [ms_rw] at h ⊢
  have hl : i < (ms.map m9).length := by simpa using hi
  have key : ∀ {w : World} {l : List (List Value)} {r : List Value}, Rw w B (.slice (some ⟨g, 0, none⟩) n cap) (l.set i r) → i < l.length → ∀ j, j < 9 → ∀ u, Rw (w.setCell ⟨g, i * 9 + j, none⟩ u) B (.slice (some ⟨g, 0, none⟩) n cap) (l.set i (r.set j u)) := fun {w l r} h hi j hj u => by
    have := h.put i (by simpa using hi) j hj u
    simpa using this
  have s0 : Rw w B (.slice (some ⟨g, 0, none⟩) n cap) ((ms.map m9).set i (m9 ms[i])) := by
    have : (ms.map m9).set i (m9 ms[i]) = ms.map m9 := by
      apply List.ext_getElem (by simp)
      intro k h1 h2
      rw [List.getElem_set]
      by_cases e : i = k
      · subst e; simp
      · rw [if_neg e]
    rw [this]; exact h
  have s1 := key s0 hl 0 (by omega) (vI m.c)
  have s2 := key s1 hl 1 (by omega) (.bool m.beg)
  have s3 := key s2 hl 2 (by omega) (vI m.kd)
  have s4 := key s3 hl 3 (by omega) (vI m.ky)
  have s5 := key s4 hl 4 (by omega) (.string m.v)
  have s6 := key s5 hl 5 (by omega) (.bool m.R.r.ok)
  have s7 := key s6 hl 6 (by omega) (.string m.R.r.val)
  have s8 := key s7 hl 7 (by omega) m.R.kv
  have s9 := key s8 hl 8 (by omega) m.R.vv
  rw [List.map_set]
  exact s9
theorem fr_nine (w : World) (g a1 a2 a3 a4 a5 a6 a7 a8 a9 : Nat) (v1 v2 v3 v4 v5 v6 v7 v8 v9 : Value) : Fr (fun j => j = g) w (((((((((w.setCell ⟨g, a1, none⟩ v1).setCell ⟨g, a2, none⟩ v2).setCell ⟨g, a3, none⟩ v3).setCell ⟨g, a4, none⟩ v4).setCell ⟨g, a5, none⟩ v5).setCell ⟨g, a6, none⟩ v6).setCell ⟨g, a7, none⟩ v7).setCell ⟨g, a8, none⟩ v8).setCell ⟨g, a9, none⟩ v9) := by
  refine Fr.setCell ?_ _ _ (Or.inl rfl)
  refine Fr.setCell ?_ _ _ (Or.inl rfl)
  refine Fr.setCell ?_ _ _ (Or.inl rfl)
  refine Fr.setCell ?_ _ _ (Or.inl rfl)
  refine Fr.setCell ?_ _ _ (Or.inl rfl)
  refine Fr.setCell ?_ _ _ (Or.inl rfl)
  refine Fr.setCell ?_ _ _ (Or.inl rfl)
  refine Fr.setCell ?_ _ _ (Or.inl rfl)
  refine Fr.setCell ?_ _ _ (Or.inl rfl)
  exact Fr.refl _ _
/-- What lies there while moments change places. -/
structure Sw (w : World) (B g n cap : Nat) (h ms ms' : List Mo) : Prop where
  own : MsOwn w B (.slice (some ⟨g, 0, none⟩) (n + 64) cap) (ms' ++ mkMs 64)
  len : ms'.length = n
  sub : ∀ m ∈ ms', m ∈ ms
  sp : SpM w B h ms
theorem Sw.cells {w : World} {B g n cap : Nat} {h ms ms' : List Mo} (x : Sw w B g n cap h ms ms') (i : Nat) (hi : i < n) : ∃ m, ms'[i]? = some m ∧ m.R.At w ∧ (∀ W, Fr (fun _ => False) w W → ∀ j, j < 9 → W.cell? ⟨g, i * 9 + j, none⟩ = (m9 m)[j]?) ∧ ∀ o, w.frozen? ⟨g, o, none⟩ = false := by
  have hil : i < ms'.length := by rw [x.len]; exact hi
  have hms := x.sub _ (List.getElem_mem hil)
  obtain ⟨k, hk⟩ := List.getElem?_of_mem hms
  obtain ⟨m0, -, ⟨kv, vv, e0⟩, hsp⟩ := x.sp k _ hk
  refine ⟨ms'[i], List.getElem?_eq_getElem hil, ?_, fun W f j hj => ?_, fun o => ?_⟩
  · have := hsp.at
    rw [e0] at this ⊢
    exact this
  · obtain ⟨ad, c2, e, hx⟩ := x.own.at
    obtain ⟨g', o', e2, hc⟩ := hx (fun e => by have := congrArg List.length e; rw [List.length_append, mkMs_len] at this; simp at this)
    simp only [Value.slice.injEq] at e
    obtain ⟨e, -, -⟩ := e
    subst e
    cases e2
    have := hc i (by rw [List.length_append]; omega) j hj
    rw [Nat.zero_add, List.getElem_append_left hil] at this
    refine (f.cell ?_ (fun e => e)).trans this
    rw [List.getElem?_eq_getElem (by exact hj)] at this
    exact cell_lt this
  · rcases x.own.2 with ⟨e, -⟩ | ⟨g', c2, cur, e, -, hb, -⟩
    · cases e
    · simp only [Value.slice.injEq] at e
      obtain ⟨e, -, -⟩ := e
      cases e
      exact frozen_of hb o
theorem Sw.go {w w' : World} {B g n cap : Nat} {h ms ms' : List Mo} (x : Sw w B g n cap h ms ms') (f : Fr (fun _ => False) w w') : Sw w' B g n cap h ms ms' :=
  ⟨x.own.fr f (fun _ _ e => e), x.len, x.sub, x.sp.fr f (fun _ e => e.elim)⟩
theorem Sw.put {w : World} {B g n cap : Nat} {h ms ms' : List Mo} (x : Sw w B g n cap h ms ms') (i : Nat) (hi : i < n) (m : Mo) (hm : m ∈ ms) :
    Sw (((((((((w.setCell ⟨g, i * 9, none⟩ (vI m.c)).setCell ⟨g, i * 9 + 1, none⟩ (.bool m.beg)).setCell ⟨g, i * 9 + 2, none⟩ (vI m.kd)).setCell ⟨g, i * 9 + 3, none⟩ (vI m.ky)).setCell ⟨g, i * 9 + 4, none⟩ (.string m.v)).setCell ⟨g, i * 9 + 5, none⟩ (.bool m.R.r.ok)).setCell ⟨g, i * 9 + 6, none⟩ (.string m.R.r.val)).setCell ⟨g, i * 9 + 7, none⟩ m.R.kv).setCell ⟨g, i * 9 + 8, none⟩ m.R.vv) B g n cap h ms (ms'.set i m) := by
  refine ⟨?_, by rw [List.length_set]; exact x.len, fun q hq => ?_, x.sp.fr (fr_nine w g _ _ _ _ _ _ _ _ _ _ _ _ _ _ _ _ _ _) (fun j e => by subst e; exact ms_own30 x.own j rfl)⟩
  · have := ms_put x.own i (by rw [List.length_append, x.len]; omega) m
    rwa [List.set_append_left _ _ (by rw [x.len]; exact hi)] at this
  · rcases List.mem_or_eq_of_mem_set hq with hq | rfl
    · exact x.sub q hq
    · exact hm
/-- It is a history. -/
theorem Sw.hat {w w0 : World} {B g n cap : Nat} {h ms ms' : List Mo} {hv : Value} (x : Sw w B g n cap h ms ms') (hh : HAt2 w0 hv h) : HAt2 w (.slice (some ⟨g, 0, none⟩) n cap) ms' ∧ ∀ m ∈ ms', ∃ m0 ∈ h, m.R.r = m0.R.r := by
  obtain ⟨-, -, -, -, h2⟩ := hh.1
  have key : ∀ m' ∈ ms', m'.R.At w ∧ m'.R.r.keys.length ≤ 1000000000000000000 ∧ In64 m'.c ∧ MOk m' ∧ ∃ m0 ∈ h, m'.R.r = m0.R.r := fun m' hm' => by
    obtain ⟨k, hk⟩ := List.getElem?_of_mem (x.sub m' hm')
    obtain ⟨m, hm, ⟨kv, vv, e⟩, hl⟩ := x.sp k m' hk
    have hmem := List.mem_of_getElem? hm
    have h3 := h2 m hmem
    have h4 := hh.2 m hmem
    have ha := hl.at
    subst e
    exact ⟨ha, h3.2.1, h3.2.2, ⟨h4.len, h4.ky, h4.keys⟩, m, hmem, rfl⟩
  refine ⟨⟨⟨some ⟨g, 0, none⟩, cap, by rw [x.len], fun hne => ⟨g, 0, rfl, fun i hi j hj => ?_⟩, fun m hm => ⟨(key m hm).1, (key m hm).2.1, (key m hm).2.2.1⟩⟩, fun m hm => (key m hm).2.2.2.1⟩, fun m hm => (key m hm).2.2.2.2⟩
  obtain ⟨m, e1, -, hc, -⟩ := x.cells i (by rw [← x.len]; exact hi)
  rw [Nat.zero_add, hc w (Fr.refl _ w) j hj]
  rw [List.getElem?_eq_getElem hi] at e1
  rw [← Option.some.inj e1]
end Go.Proofs.Ytihicdbplmdjiaa

namespace Go.Proofs.Ytihicdbplmdjiaa
open Go.RowKit (wrap32 wrap64)
set_option linter.unusedVariables false
set_option linter.unusedSimpArgs false

theorem roe_is {h : List Mo} {w w' : World} {lv : Value} {ok : Bool} {er : Int} (o : RoE h w w' lv ok er) (h64 : ∀ cs, callsX h = some cs → cs.length ≤ 64) (ho : ∃ os, OrdIs h os) : ∃ os, OrdIs h os ∧ RowAt w' lv (os.map vI) ∧ os.length ≤ 64 := by
  obtain ⟨os, hos⟩ := ho
  refine ⟨os, hos, ?_⟩
  rcases o with ⟨h1, rfl, -, -⟩ | ⟨cs, r, h1, -, hro, h2⟩
  · rcases hos with ⟨-, rfl⟩ | ⟨cs, e, -⟩
    · exact ⟨RowAt.nil _, by simp⟩
    · rw [h1] at e; cases e
  · rcases hos with ⟨e, -⟩ | ⟨cs', e, hx⟩
    · rw [h1] at e; cases e
    · rw [h1] at e; cases e
      have hl := h64 cs h1
      obtain ⟨q1, q2⟩ := ref_ord h1 hl hro
      rcases hx with ⟨hno, rfl⟩ | ⟨acc, hp, ho, rfl⟩
      · rcases h2 with ⟨-, rfl, -⟩ | ⟨fin, e2, -⟩
        · exact ⟨RowAt.nil _, by simp⟩
        · rw [q1 hno] at e2; cases e2
      · rcases h2 with ⟨e2, -⟩ | ⟨fin, e2, -, hown⟩
        · rw [q2 acc hp ho] at e2; cases e2
        · rw [q2 acc hp ho] at e2
          cases e2
          refine ⟨?_, ?_⟩
          · have := ownsRow_ra hown (by simp)
            simpa [List.map_map, Function.comp_def] using this
          · obtain ⟨hk, hb⟩ := calls_begun h1
            obtain ⟨hg, ha⟩ := order_good hl ho
            have := (good_played hb hk (calls_right h1) hp hg ha).2
            rw [List.length_map]; omega
/-- Where Order has told something, it is told what. -/
theorem ord_is {h : List Mo} {w w' : World} {lv : Value} {ok : Bool} {er : Int} (o : OrderE h w w' lv ok er) : ∃ os, OrdIs h os := by
  rcases o with ⟨h1, -⟩ | ⟨cs, h1, -, h2⟩
  · exact ⟨[], Or.inl ⟨h1, rfl⟩⟩
  · rcases h2 with ⟨hno, -⟩ | ⟨acc, hp, ho, -⟩
    · exact ⟨[], Or.inr ⟨cs, h1, Or.inl ⟨hno, rfl⟩⟩⟩
    · exact ⟨acc.map (bI cs), Or.inr ⟨cs, h1, Or.inr ⟨acc, hp, ho, rfl⟩⟩⟩
theorem ord_total {ws : List Nat} (hl : ws.length ≤ 64) : ∀ (left : Nat) (acc : List Nat), left < 18446744073709551616 → ∃ r, Ord ws left acc r := by
  intro left
  induction left using Nat.strongRecOn with
  | ind left ih =>
    intro acc hlt
    by_cases h0 : left = 0
    · subst h0; exact ⟨_, Ord.done acc⟩
    · cases e : leastX left ws with
      | none => exact ⟨none, Ord.stuck left acc h0 e⟩
      | some i =>
        obtain ⟨hb, hi⟩ := leastX_bit e
        obtain ⟨r, hr⟩ := ih (dropS left i) (dropS_less hlt (by omega) hb) (acc ++ [i]) (dropS_lt i hlt)
        exact ⟨r, Ord.step left i acc r h0 e hr⟩
theorem ord_ex {h : List Mo} (h64 : ∀ cs, callsX h = some cs → cs.length ≤ 64) : ∃ os, OrdIs h os := by
  cases e : callsX h with
  | none => exact ⟨[], Or.inl ⟨e, rfl⟩⟩
  | some cs =>
    have hl := h64 cs e
    cases hp : possibleB (madeX cs) cs with
    | false => exact ⟨[], Or.inr ⟨cs, e, Or.inl ⟨Or.inl hp, rfl⟩⟩⟩
    | true =>
      obtain ⟨r, hr⟩ := ord_total (ws := waitsX cs) (by rw [waitsX_len]; exact hl) (2 ^ cs.length - 1) [] (firsts_lt hl)
      cases r with
      | none => exact ⟨[], Or.inr ⟨cs, e, Or.inl ⟨Or.inr hr, rfl⟩⟩⟩
      | some acc => exact ⟨acc.map (bI cs), Or.inr ⟨cs, e, Or.inr ⟨acc, hp, hr, rfl⟩⟩⟩
end Go.Proofs.Ytihicdbplmdjiaa

namespace Go.Proofs.Ytihicdbplmdjiaa
open Go.RowKit (wrap32 wrap64)
set_option linter.unusedVariables false
set_option linter.unusedSimpArgs false

set_option maxRecDepth 100000 in
set_option maxHeartbeats 8000000 in
/-- HISTCHECKS. -/
theorem histChecks_any (hv : Value) (h : List Mo) (w : World) (hh : HAt2 w hv h) (hl : h.length ≤ 1000000000000000000) (hvl : ∀ m ∈ h, m.R.r.vals.length ≤ 1000000000000000000) :
    Calls Try.prog 6 #[hv] w fun e w' => e = .returned (.bool true) ∧ Fr (fun _ => False) w w' := by
  have hlo := long_any hv h w hh.1 hl hvl
  have HH : Hd (HAt2 w hv h) := hh
  have H64 : Hd (∀ cs, callsX h = some cs → cs.length ≤ 64) := fun cs e => (calls_fine hh.2 e).2
  clear hh hl hvl
  go_enter Try.func6, Try.ntmps6
  go_wp2_with fail
  refine hlo.mono ?_
  rintro _ w1 ⟨LG, rfl, hf1, hb⟩
  have HF1 : Hd (Fr (fun _ => False) w w1) := hf1
  have HB : Hd (LG = false → h.length ≤ 2147483647 ∧ ∀ m ∈ h, m.R.r.keys.length ≤ 2147483647 ∧ m.R.r.vals.length ≤ 2147483647) := hb
  clear hlo hf1 hb
  cases LG
  · obtain ⟨hl, hL⟩ := HB.out rfl
    have HL : Hd (h.length ≤ 2147483647 ∧ ∀ m ∈ h, m.R.r.keys.length ≤ 2147483647 ∧ m.R.r.vals.length ≤ 2147483647) := ⟨hl, hL⟩
    have SPA : Hd (∀ W, Fr (fun _ => False) w W → Calls Try.prog 19 #[hv] W fun e w' => ∃ lv, e = .returned lv ∧ Fr (fun _ => False) W w' ∧ SpH w' W.heap.size lv h) := fun W f => spare_any hv h W (HH.out.fr f).1 (by omega) (fun m hm => by have := hL m hm; omega)
    have SAM : Hd (∀ W lv B, Fr (fun _ => False) w W → SpH W B lv h → Calls Try.prog 20 #[lv, hv] W fun e w' => e = .returned (.bool true) ∧ Fr (fun _ => False) W w') := fun W lv B f hs => by
      obtain ⟨ms, q1, q2, -⟩ := hs.hat HH.out
      exact same_any lv hv ms h W q1 (HH.out.fr f) (by omega) (fun m hm => by have := hL m hm; omega) q2
    have STY : Hd (∀ W lv B, Fr (fun _ => False) w W → SpH W B lv h → Calls Try.prog 22 #[lv, hv] W fun e w' => e = .returned (.bool true) ∧ Fr (fun _ => False) W w') := fun W lv B f hs =>
      stays_any lv hv h B W hs (HH.out.fr f) (by omega) (fun m hm => by have := hL m hm; omega)
    have ROR : Hd (∀ W, Fr (fun _ => False) w W → Calls Try.prog 21 #[hv] W fun e w' => RoR h W e w') := fun W f => rorder_any hv h W (HH.out.fr f).1 (by omega) (fun m hm => by have := hL m hm; omega)
    have OWN : Hd (∀ W lv B wv os, Fr (fun _ => False) w W → SpH W B lv h → RowAt W wv (os.map vI) → OrdIs h os → os.length ≤ 64 → Calls Try.prog 18 #[lv, wv] W fun e w' => e = .returned (.bool true) ∧ Fr (fun _ => False) W w') := fun W lv B wv os f hs hr ho hol => by
      obtain ⟨ms, q1, q2, -⟩ := hs.hat HH.out
      exact owns_any lv wv ms os W q1 hr (ho.same q2) hol
    clear HB hl hL
    go_upto_region 4 with (go_at_call 17; refine (small_any _).mono ?_; rintro _ w2 ⟨sv, ov, rfl, hf2, hsm, hso⟩; replace HF1 : Hd (Fr _ _ _) := HF1.out.trans hf2; have HSM : Hd (HAt2 w2 sv smH ∧ RowAt w2 ov ([2, 1, 0].map vI)) := ⟨hsm, hso⟩; clear hf2 hsm hso)
    go_upto_region 5 with (go_at_call 18; refine (owns_any sv ov smH [2, 1, 0] w2 HSM.out.1 HSM.out.2 sm_is (by simp)).mono ?_; rintro _ w3 ⟨rfl, hf3⟩; replace HF1 : Hd (Fr _ _ _) := HF1.out.trans hf3; clear hf3)
    clear HSM
    go_upto_region 6 with (go_at_call 19; refine (SPA.out _ HF1.out).mono ?_; rintro _ w4 ⟨lv, rfl, hf4, hsp⟩; have HSP : Hd (SpH w4 w3.heap.size lv h ∧ w.heap.size ≤ w3.heap.size) := ⟨hsp, HF1.out.size⟩; replace HF1 : Hd (Fr _ _ _) := HF1.out.trans hf4; clear hf4 hsp)
    clear SPA
    have HG : Hd (Fr (fun _ => False) w4 w4) := Fr.refl _ _
    go_upto_region 7 with (go_at_call 20; refine (SAM.out _ lv _ HF1.out (HSP.out.1.go HG.out)).mono ?_; rintro _ w5 ⟨rfl, hf5⟩; replace HF1 : Hd (Fr _ _ _) := HF1.out.trans hf5; replace HG : Hd (Fr _ _ _) := HG.out.trans hf5; clear hf5)
    go_upto_region 8 with (go_at_call 21; refine (ROR.out _ HF1.out).mono ?_; rintro _ w6 ⟨wv, wok, wer, rfl, hf6, hE⟩; replace HF1 : Hd (Fr _ _ _) := HF1.out.trans hf6; replace HG : Hd (Fr _ _ _) := HG.out.trans hf6; have HWV : Hd (∃ os, OrdIs h os ∧ RowAt w6 wv (os.map vI) ∧ os.length ≤ 64) := roe_is hE H64.out (ord_ex H64.out); clear hf6 hE)
    clear ROR
    obtain ⟨os, hos, hrow, hol⟩ := HWV.out
    have HWO : Hd (OrdIs h os ∧ RowAt w6 wv (os.map vI) ∧ os.length ≤ 64) := ⟨hos, hrow, hol⟩
    have HG6 : Hd (Fr (fun _ => False) w6 w6) := Fr.refl _ _
    clear HWV hos hrow hol
    go_upto_region 10 with (go_at_call 22; refine (STY.out _ lv _ HF1.out (HSP.out.1.go HG.out)).mono ?_; rintro _ w7 ⟨rfl, hf7⟩; replace HF1 : Hd (Fr _ _ _) := HF1.out.trans hf7; replace HG : Hd (Fr _ _ _) := HG.out.trans hf7; replace HG6 : Hd (Fr _ _ _) := HG6.out.trans hf7; clear hf7)
    go_upto_region 11 with (go_at_call 18; refine (OWN.out _ lv _ wv os HF1.out (HSP.out.1.go HG.out) (HWO.out.2.1.fr HG6.out (fun _ _ _ e => e)) HWO.out.1 HWO.out.2.2).mono ?_; rintro _ w8 ⟨rfl, hf8⟩; replace HF1 : Hd (Fr _ _ _) := HF1.out.trans hf8; replace HG : Hd (Fr _ _ _) := HG.out.trans hf8; clear hf8)
    clear OWN HWO HG6
    go_upto_region 12 with (go_at_call 20; refine (SAM.out _ lv _ HF1.out (HSP.out.1.go HG.out)).mono ?_; rintro _ w9 ⟨rfl, hf9⟩; replace HF1 : Hd (Fr _ _ _) := HF1.out.trans hf9; replace HG : Hd (Fr _ _ _) := HG.out.trans hf9; clear hf9)
    go_upto_region 14 with (go_at_call 22; refine (STY.out _ lv _ HF1.out (HSP.out.1.go HG.out)).mono ?_; rintro _ w10 ⟨rfl, hf10⟩; replace HF1 : Hd (Fr _ _ _) := HF1.out.trans hf10; replace HG : Hd (Fr _ _ _) := HG.out.trans hf10; clear hf10)
    clear SAM STY
    obtain ⟨g, cap, ms, rfl, hown, hlen, hsp⟩ := HSP.out.1
    obtain ⟨n, en⟩ : ∃ n, n = h.length := ⟨_, rfl⟩
    have EN : Hd (n = h.length) := en
    rw [← en] at hown hlen ⊢
    have hgw : w.heap.size ≤ g := by
      have h1 : w4.ownsRow w3.heap.size 30 9 (.slice (some ⟨g, 0, none⟩) (n + 64) cap) (ms ++ mkMs 64).length (((ms ++ mkMs 64).map m9).flatten) := hown
      have := (World.ownsRow.lt h1 g rfl).1
      have := HSP.out.2
      omega
    have HGB : Hd (w.heap.size ≤ g) := hgw
    have hS0 : Sw w10 w3.heap.size g n cap h ms ms := (Sw.mk hown hlen (fun _ h => h) hsp).go HG.out
    obtain ⟨B, eB⟩ : ∃ B, B = w3.heap.size := ⟨_, rfl⟩
    rw [← eB] at hS0
    have HS0 : Hd (Fr (fun _ => False) w w10 ∧ ∃ ms', Sw w10 B g n cap h ms ms') := ⟨HF1.out, ms, hS0⟩
    have hn : n ≤ 2147483647 := by rw [en]; exact HL.out.1
    clear hown hlen hsp hgw hS0 eB HG HF1 HSP en
    go_upto_region 15 with fail
    go_loopw [11] (fun v11 wr => ∃ k : Nat, v11 = vI k ∧ k ≤ n + 1 ∧ Hd (Fr (fun _ => False) w wr ∧ ∃ ms', Sw wr B g n cap h ms ms')) (fun v _ => match v with | .int _ q => n + 1 - q.toNat | _ => 0)
    case atStart => exact ⟨0, rfl, by omega, HS0.out⟩
    case round =>
      clear HS0
      obtain ⟨k, rfl, hk, HR⟩ := hrel
      by_cases hlt : k + 1 < n
      · have k0 : (0 : Int) ≤ k := by omega
        have k1 : (k : Int) < n := by omega
        have k2 : (k : Int) + 1 < n := by omega
        have k3 : (0 : Int) ≤ (k : Int) + 1 := by omega
        have hkt : ((k : Int) + 1).toNat = k + 1 := by omega
        obtain ⟨ms', hsw⟩ := HR.out.2
        have HSW : Hd (Sw wr B g n cap h ms ms') := hsw
        obtain ⟨m1, e1, a1, c1, fz⟩ := hsw.cells k (by omega)
        obtain ⟨m2, e2, a2, c2, -⟩ := hsw.cells (k + 1) hlt
        have HM : Hd (m1 ∈ ms ∧ m2 ∈ ms) := ⟨hsw.sub _ (List.mem_of_getElem? e1), hsw.sub _ (List.mem_of_getElem? e2)⟩
        have HC : Hd ((∀ W, Fr (fun _ => False) wr W → ∀ j, j < 9 → W.cell? ⟨g, k * 9 + j, none⟩ = (m9 m1)[j]?) ∧ (∀ W, Fr (fun _ => False) wr W → ∀ j, j < 9 → W.cell? ⟨g, (k + 1) * 9 + j, none⟩ = (m9 m2)[j]?)) := ⟨c1, c2⟩
        have HGS : Hd (g < wr.heap.size) := by
          have := c1 wr (Fr.refl _ _) 0 (by omega)
          rw [List.getElem?_eq_getElem (by exact (show 0 < 9 by omega))] at this
          exact cell_lt this
        obtain ⟨ka1, kc1, ek1⟩ := row_slice a1.1
        obtain ⟨va1, vc1, ev1⟩ := row_slice a1.2
        obtain ⟨ka2, kc2, ek2⟩ := row_slice a2.1
        obtain ⟨va2, vc2, ev2⟩ := row_slice a2.2
        simp only [List.length_map] at ek1 ev1 ek2 ev2
        obtain ⟨c, beg, kd, ky, v, ⟨⟨ok, val, ks, vs⟩, kv, vv⟩⟩ := m1
        obtain ⟨c', beg', kd', ky', v', ⟨⟨ok', val', ks', vs'⟩, kv', vv'⟩⟩ := m2
        simp only at ek1 ev1 ek2 ev2
        subst ek1 ev1 ek2 ev2
        clear hsw e1 e2 a1 a2
        unfold m9 at c1
        have c1 := c1 wr (Fr.refl _ _)
        have x0 := c1 0 (by omega)
        have x1 := c1 1 (by omega)
        have x2 := c1 2 (by omega)
        have x3 := c1 3 (by omega)
        have x4 := c1 4 (by omega)
        have x5 := c1 5 (by omega)
        have x6 := c1 6 (by omega)
        have x7 := c1 7 (by omega)
        have x8 := c1 8 (by omega)
        simp only [List.getElem?_cons_zero, List.getElem?_cons_succ, Nat.add_zero] at x0 x1 x2 x3 x4 x5 x6 x7 x8
        clear c1 c2
        go_upto_region 18 with fail
        clear x0 x1 x2 x3 x4 x5 x6 x7 x8
        obtain ⟨W, eW⟩ : ∃ W, W = (wr.alloc (Obj.cells #[.int .i64 c, .bool beg, .int .i64 kd, .int .i64 ky, .string v, .bool ok, .string val, .slice ka1 ks.length kc1, .slice va1 vs.length vc1] 30)) := ⟨_, rfl⟩
        have hb := heap_alloc_last wr (Obj.cells #[.int .i64 c, .bool beg, .int .i64 kd, .int .i64 ky, .string v, .bool ok, .string val, .slice ka1 ks.length kc1, .slice va1 vs.length vc1] 30)
        have hf : Fr (fun _ => False) wr W := by rw [eW]; exact (Fr.refl _ wr).alloc _
        rw [← eW] at hb ⊢
        obtain ⟨pm, epm⟩ : ∃ pm, pm = wr.heap.size := ⟨_, rfl⟩
        rw [← epm] at hb ⊢
        have hgp : g ≠ pm := by have := HGS.out; omega
        have HBX : Hd (W.heap[pm]? = some (Obj.cells #[.int .i64 c, .bool beg, .int .i64 kd, .int .i64 ky, .string v, .bool ok, .string val, .slice ka1 ks.length kc1, .slice va1 vs.length vc1] 30) ∧ g ≠ pm) := ⟨hb, hgp⟩
        have HSW1 : Hd (Sw W B g n cap h ms ms') := HSW.out.go hf
        have HFW : Hd (Fr (fun _ => False) w W ∧ Fr (fun _ => False) wr W) := ⟨HR.out.1.trans hf, hf⟩
        have c1 := HC.out.1 W hf
        have c2 := HC.out.2 W hf
        obtain ⟨-, -, -, -, fz1⟩ := HSW1.out.cells k (by omega)
        clear hb hf eW epm hgp fz HSW
        unfold m9 at c1 c2
        have x0 := c1 0 (by omega)
        have x1 := c1 1 (by omega)
        have x2 := c1 2 (by omega)
        have x3 := c1 3 (by omega)
        have x4 := c1 4 (by omega)
        have x5 := c1 5 (by omega)
        have x6 := c1 6 (by omega)
        have x7 := c1 7 (by omega)
        have x8 := c1 8 (by omega)
        have z0 := c2 0 (by omega)
        have z1 := c2 1 (by omega)
        have z2 := c2 2 (by omega)
        have z3 := c2 3 (by omega)
        have z4 := c2 4 (by omega)
        have z5 := c2 5 (by omega)
        have z6 := c2 6 (by omega)
        have z7 := c2 7 (by omega)
        have z8 := c2 8 (by omega)
        simp only [List.getElem?_cons_zero, List.getElem?_cons_succ, Nat.add_zero] at x0 x1 x2 x3 x4 x5 x6 x7 x8 z0 z1 z2 z3 z4 z5 z6 z7 z8
        have f0 := fz1 (k * 9)
        have f1 := fz1 (k * 9 + 1)
        have f2 := fz1 (k * 9 + 2)
        have f3 := fz1 (k * 9 + 3)
        have f4 := fz1 (k * 9 + 4)
        have f5 := fz1 (k * 9 + 5)
        have f6 := fz1 (k * 9 + 6)
        have f7 := fz1 (k * 9 + 7)
        have f8 := fz1 (k * 9 + 8)
        clear c1 c2
        go_upto_region 19 with fail
        clear x0 x1 x2 x3 x4 x5 x6 x7 x8 z0 z1 z2 z3 z4 z5 z6 z7 z8 f0 f1 f2 f3 f4 f5 f6 f7 f8 fz1
        obtain ⟨W2, eW2⟩ : ∃ W2, W2 = (((((((((W.setCell ⟨g, k * 9, none⟩ (vI c')).setCell ⟨g, k * 9 + 1, none⟩ (.bool beg')).setCell ⟨g, k * 9 + 2, none⟩ (vI kd')).setCell ⟨g, k * 9 + 3, none⟩ (vI ky')).setCell ⟨g, k * 9 + 4, none⟩ (.string v')).setCell ⟨g, k * 9 + 5, none⟩ (.bool ok')).setCell ⟨g, k * 9 + 6, none⟩ (.string val')).setCell ⟨g, k * 9 + 7, none⟩ (.slice ka2 ks'.length kc2)).setCell ⟨g, k * 9 + 8, none⟩ (.slice va2 vs'.length vc2)) := ⟨_, rfl⟩
        have hS2 : Sw W2 B g n cap h ms (ms'.set k ⟨c', beg', kd', ky', v', ⟨⟨ok', val', ks', vs'⟩, .slice ka2 ks'.length kc2, .slice va2 vs'.length vc2⟩⟩) := by rw [eW2]; exact HSW1.out.put k (by omega) ⟨c', beg', kd', ky', v', ⟨⟨ok', val', ks', vs'⟩, .slice ka2 ks'.length kc2, .slice va2 vs'.length vc2⟩⟩ HM.out.2
        have hf2 : Fr (fun j => j = g) W W2 := by rw [eW2]; exact fr_nine W g _ _ _ _ _ _ _ _ _ _ _ _ _ _ _ _ _ _
        rw [← eW2]
        clear eW2
        have HSW2 : Hd (Sw W2 B g n cap h ms (ms'.set k ⟨c', beg', kd', ky', v', ⟨⟨ok', val', ks', vs'⟩, .slice ka2 ks'.length kc2, .slice va2 vs'.length vc2⟩⟩)) := hS2
        have HF2 : Hd (Fr (fun j => j = g) W W2) := hf2
        obtain ⟨y0, y1, y2, y3, y4, y5, y6, y7, y8⟩ := nine ((hf2.block pm (heap_lt HBX.out.1) (fun e => HBX.out.2 e.symm)).trans HBX.out.1)
        obtain ⟨m3, -, -, c3, fz3⟩ := hS2.cells (k + 1) hlt
        have zz : ∀ j, j < 9 → ∃ x, W2.cell? ⟨g, (k + 1) * 9 + j, none⟩ = some x := fun j hj => by
          have h1 := c3 W2 (Fr.refl _ _) j hj
          rw [h1, List.getElem?_eq_getElem (by exact hj)]
          exact ⟨_, rfl⟩
        obtain ⟨x0, q0⟩ := zz 0 (by omega)
        obtain ⟨x1, q1⟩ := zz 1 (by omega)
        obtain ⟨x2, q2⟩ := zz 2 (by omega)
        obtain ⟨x3, q3⟩ := zz 3 (by omega)
        obtain ⟨x4, q4⟩ := zz 4 (by omega)
        obtain ⟨x5, q5⟩ := zz 5 (by omega)
        obtain ⟨x6, q6⟩ := zz 6 (by omega)
        obtain ⟨x7, q7⟩ := zz 7 (by omega)
        obtain ⟨x8, q8⟩ := zz 8 (by omega)
        rw [Nat.add_zero] at q0
        have f0 := fz3 ((k + 1) * 9)
        have f1 := fz3 ((k + 1) * 9 + 1)
        have f2 := fz3 ((k + 1) * 9 + 2)
        have f3 := fz3 ((k + 1) * 9 + 3)
        have f4 := fz3 ((k + 1) * 9 + 4)
        have f5 := fz3 ((k + 1) * 9 + 5)
        have f6 := fz3 ((k + 1) * 9 + 6)
        have f7 := fz3 ((k + 1) * 9 + 7)
        have f8 := fz3 ((k + 1) * 9 + 8)
        clear hS2 hf2 c3 fz3 zz
        go_wp2_with fail
        have hS3 := HSW2.out.put (k + 1) hlt ⟨c, beg, kd, ky, v, ⟨⟨ok, val, ks, vs⟩, .slice ka1 ks.length kc1, .slice va1 vs.length vc1⟩⟩ HM.out.1
        have hf3 := fr_nine W2 g ((k + 1) * 9) ((k + 1) * 9 + 1) ((k + 1) * 9 + 2) ((k + 1) * 9 + 3) ((k + 1) * 9 + 4) ((k + 1) * 9 + 5) ((k + 1) * 9 + 6) ((k + 1) * 9 + 7) ((k + 1) * 9 + 8) (vI c) (.bool beg) (vI kd) (vI ky) (.string v) (.bool ok) (.string val) (.slice ka1 ks.length kc1) (.slice va1 vs.length vc1)
        exact ⟨⟨k + 2, by simp, by omega, (HFW.out.1.under HF2.out (fun j e => by rw [e]; exact HGB.out)).under hf3 (fun j e => by rw [e]; exact HGB.out), _, hS3⟩, by simp; omega⟩
      · have k2 : ¬ (k : Int) + 1 < n := by omega
        obtain ⟨ms', hsw⟩ := HR.out.2
        obtain ⟨hat, hrr⟩ := hsw.hat HH.out
        have hbd : ∀ m ∈ ms', m.R.r.keys.length ≤ 2147483647 ∧ m.R.r.vals.length ≤ 2147483647 := fun m hm => by
          obtain ⟨m0, h0, e0⟩ := hrr m hm
          rw [e0]; exact HL.out.2 m0 h0
        have hln : ms'.length = n := hsw.len
        have HCP : Hd (Calls Try.prog 11 #[.slice (some ⟨g, 0, none⟩) n cap] wr fun e w' => CpH ms' wr w' e) := copyHistory_any (.slice (some ⟨g, 0, none⟩) n cap) ms' wr hat.1 (by omega) (fun m hm => by have := hbd m hm; omega)
        have HSA : Hd (∀ W c1 msc, Fr (fun _ => False) wr W → Cps W wr.heap.size c1 ms' msc → msc.length = ms'.length → Calls Try.prog 20 #[.slice (some ⟨g, 0, none⟩) n cap, c1] W fun e w' => e = .returned (.bool true) ∧ Fr (fun _ => False) W w') := fun W c1 msc f hcp hl2 => by
          refine same_any (.slice (some ⟨g, 0, none⟩) n cap) c1 ms' msc W (hat.fr f) (hcp.hat hat) (by omega) (fun m hm => ?_) (hcp.pl hl2).symm
          obtain ⟨q, hq⟩ := List.getElem?_of_mem hm
          obtain ⟨m0, hm0, hc0⟩ := hcp.2 q m hq
          obtain ⟨kv0, vv0, e0⟩ := hc0.eq
          have := hbd m0 (List.mem_of_getElem? hm0)
          rw [e0]
          show m0.R.r.keys.length ≤ 4000000000 ∧ m0.R.r.vals.length ≤ 4000000000
          omega
        have HFW : Hd (Fr (fun _ => False) w wr) := HR.out.1
        clear hsw hat hrr hbd hln HR
        go_wp2_with (first | (go_at_call 11; refine HCP.out.mono ?_; rintro _ w3 ⟨c1, msc, rfl, hf3, hlen, hcp⟩; have HC1 : Hd (Cps w3 wr.heap.size c1 ms' msc ∧ msc.length = ms'.length ∧ Fr (fun _ => False) wr w3) := ⟨hcp, hlen, hf3⟩; clear hf3 hlen hcp) | (go_at_call 20; refine (HSA.out w3 c1 msc HC1.out.2.2 HC1.out.1 HC1.out.2.1).mono ?_; rintro _ w4 ⟨rfl, hf4⟩; have HF4 : Hd (Fr (fun _ => False) w3 w4) := hf4; clear hf4))
        go_ret
        exact ⟨rfl, (HFW.out.trans HC1.out.2.2).trans HF4.out⟩
  · go_wp2_with fail
    go_ret
    exact ⟨rfl, HF1.out⟩
end Go.Proofs.Ytihicdbplmdjiaa
