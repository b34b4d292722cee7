import Derived.Test.YtihicdbplmdjiaaGreatQH5
import Derived.Test.YtihicdbplmdjiaaGreatQB1J
import Derived.Test.YtihicdbplmdjiaaGreatQEaJ
import Derived.Test.YtihicdbplmdjiaaGreatQLbJ
import Derived.Test.YtihicdbplmdjiaaGreatQPlL0J
import Derived.Test.YtihicdbplmdjiaaGreatQB3bJ
import Derived.Test.YtihicdbplmdjiaaGreatRows
import Derived.ProofKit
import Derived.OpenShut
import Derived.ChangeOld
import Derived.Below
import Derived.Carry
import Derived.SizedLaws
import Derived.Deep.SlicePairs
set_option linter.unusedVariables false
set_option linter.unusedSimpArgs false
namespace Go.Proofs.YtihicdbplmdjiaaGreat
open Go.RowKit (wrap32 wrap64)


theorem long1_any (n : Int) (w : World) : Calls Tryz.prog 4 #[vI n] w fun e w' => e = .returned (.bool (decide (2147483647 < n))) ∧ Fr (fun _ => False) w w' := by
  obtain ⟨D, hD⟩ : ∃ D, D = decide (2147483647 < n) := ⟨_, rfl⟩
  by_cases h : 2147483647 < n
  · have e : D = true := by rw [hD]; simpa using h
    rw [← hD, e]
    clear hD
    go_enter Tryz.func4, Tryz.ntmps4
    go_wp2_with fail
    go_ret
    exact ⟨by simp, Fr.refl _ _⟩
  · have e : D = false := by rw [hD]; simpa using h
    rw [← hD, e]
    clear hD
    go_enter Tryz.func4, Tryz.ntmps4
    go_wp2_with fail
    go_ret
    exact ⟨by simp, Fr.refl _ _⟩

/-- How long the first k moments are. -/
def sumL (h : List Mo) : Nat → Nat
  | 0 => h.length
  | k + 1 => sumL h k + (match h[k]? with | some m => m.R.r.keys.length + m.R.r.vals.length | none => 0)
theorem sumL_mono (h : List Mo) : ∀ n, h.length ≤ sumL h n ∧ ∀ k m, k < n → h[k]? = some m → m.R.r.keys.length + m.R.r.vals.length ≤ sumL h n
  | 0 => ⟨Nat.le_refl _, fun k m hk => absurd hk (by omega)⟩
  | n + 1 => by
    have ih := sumL_mono h n
    unfold sumL
    refine ⟨by omega, fun k m hk hm => ?_⟩
    by_cases e : k = n
    · subst e; rw [hm]; simp only; omega
    · have := ih.2 k m (by omega) hm; omega

/-! ### played: the plain side -/
theorem map_zip {L : List Kv} {ks : List Int} {vs : List ByteArray} (hl : ks.length = vs.length) : (L.map Prod.fst = ks ∧ L.map Prod.snd = vs) ↔ L = ks.zip vs := by
  constructor
  · rintro ⟨rfl, rfl⟩
    induction L with
    | nil => rfl
    | cons a L ih => simp only [List.map_cons, List.zip_cons_cons]; rw [← ih (by simp)]
  · rintro rfl
    exact ⟨List.map_fst_zip (by omega), List.map_snd_zip (by omega)⟩
def rpOf (R : RepT) : Rpl := ⟨R.ok, R.val, R.L.map Prod.fst, R.L.map Prod.snd⟩
theorem rp_iff {R : RepT} {c : Cl} (hl : c.R.r.keys.length = c.R.r.vals.length) : rplB (rpOf R) c.R.r = repB R (repT c) := by
  have : rpOf R = c.R.r ↔ R = repT c := by
    obtain ⟨b, e, kd, ky, v, ⟨⟨ok, val, ks, vs⟩, kv, vv⟩⟩ := c
    obtain ⟨ok', val', L⟩ := R
    simp only at hl
    unfold rpOf
    simp only [Rpl.mk.injEq, RepT.mk.injEq]
    rw [map_zip hl]
  rw [Bool.eq_iff_iff, rplB_iff, repB_iff]
  exact this
theorem right_len {c : Cl} (h : rightReplyB c.kd c.R.r = true) : c.R.r.keys.length = c.R.r.vals.length := by
  unfold rightReplyB at h
  split at h
  · simp only [Bool.and_eq_true, decide_eq_true_eq] at h
    exact h.1.2
  · simp only [Bool.and_eq_true] at h
    have := h.2
    unfold noKeysB at this
    simp at this
    rw [this.1, this.2]; rfl
theorem atX_none {cs : List Cl} {o : Int} (h : ∀ c ∈ cs, (c.b : Int) ≠ o) : atX cs o = none := by
  unfold atX
  exact List.find?_eq_none.2 fun c hc => by simpa using h c hc
theorem playX_none {cs us : List Cl} {o : Int} {r : List Int} (h : atX cs o = none) : playX cs us (o :: r) = false := by unfold playX; rw [h]
theorem playX_some {cs us : List Cl} {o : Int} {r : List Int} {c : Cl} (h : atX cs o = some c) : playX cs us (o :: r) = (fitsB us c && playX cs (us ++ [c]) r) := by
  conv => lhs; unfold playX
  rw [h]
theorem fits_bad {us : List Cl} {c d : Cl} (hd : d ∈ us) (h : d.b = c.b ∨ c.e < d.b) : fitsB us c = false := by
  unfold fitsB
  rw [Bool.and_eq_false_iff]
  left
  rw [List.all_eq_false]
  refine ⟨d, hd, ?_⟩
  rcases h with h | h <;> simp [h]
theorem fits_rep {us : List Cl} {c : Cl} (h : ∀ d ∈ us, d.b ≠ c.b ∧ ¬ c.e < d.b) : fitsB us c = repB (doR (tabOf (us.map opT)) (opT c)) (repT c) := by
  unfold fitsB
  rw [show (us.all fun d => !decide (d.b = c.b) && !decide (c.e < d.b)) = true from List.all_eq_true.2 fun d hd => by simp [(h d hd).1, (h d hd).2]]
  rfl
theorem tab_snoc (us : List Cl) (c : Cl) : tabOf ((us ++ [c]).map opT) = doT (tabOf (us.map opT)) (opT c) := by
  unfold tabOf
  rw [List.map_append, List.foldl_append]; rfl
theorem insK_len (t : List Kv) (k : Int) (v : ByteArray) : (insK t k v).length = t.length + 1 := by
  induction t with
  | nil => rfl
  | cons e r ih => unfold insK; split <;> simp [ih]
theorem doT_len (t : List Kv) (o : OpT) : (doT t o).length ≤ t.length + 1 := by
  unfold doT
  split
  · split
    · omega
    · rw [insK_len]; omega
  · omega
theorem tab_len (us : List Cl) : (tabOf (us.map opT)).length ≤ us.length := by
  have key : ∀ (l : List Cl) (t : List Kv), ((l.map opT).foldl doT t).length ≤ t.length + l.length := by
    intro l
    induction l with
    | nil => intro t; simp
    | cons c l ih =>
      intro t
      have h1 := ih (doT t (opT c))
      have h2 := doT_len t (opT c)
      simp only [List.map_cons, List.foldl_cons, List.length_cons]
      omega
  have := key us []
  unfold tabOf
  simpa using this
/-! ### played: what lies in memory -/
structure PlS (w1 w : World) (pt : Nat) (v8 : Value) (us : List Cl) (kv vv : Value) (L : List Kv) : Prop where
  fr : Fr (fun _ => False) w1 w
  tab : Rt w pt pt kv vv L
  own : ROwn w pt v8 us
  ap : ∀ j, v8.ownBlock = some j → j ≠ pt ∧ kv.ownBlock ≠ some j ∧ vv.ownBlock ≠ some j
theorem PlS.go {w1 w w2 : World} {pt : Nat} {v8 : Value} {us : List Cl} {kv vv : Value} {L : List Kv} (h : PlS w1 w pt v8 us kv vv L) (f : Fr (fun _ => False) w w2) : PlS w1 w2 pt v8 us kv vv L :=
  ⟨h.fr.trans f, h.tab.fr f (fun e => e) (fun _ _ e => e) (fun _ _ e => e), h.own.fr f (fun _ _ e => e), h.ap⟩
theorem ownsRow_ra {w : World} {B e n : Nat} {v : Value} {xs : List Value} (h : w.ownsRow B e 1 v n xs) (hn : n = xs.length) : RowAt w v xs := by
  subst hn
  exact (RowB.own h).ra
/-- A call is done. -/
theorem PlS.did {w1 w w2 : World} {pt : Nat} {v8 : Value} {us : List Cl} {kv vv : Value} {L : List Kv} {o : OpT} {rv : Value} (h : PlS w1 w pt v8 us kv vv L) (hp : w1.heap.size = pt) (d : DoE w w2 pt pt kv vv L o rv) :
    ∃ rk ru kv' vv', rv = RV.V ⟨rpOf (doR L o), rk, ru⟩ ∧ RV.At w2 ⟨rpOf (doR L o), rk, ru⟩ ∧ PlS w1 w2 pt v8 us kv' vv' (doT L o) := by
  obtain ⟨rk, ru, kv', vv', e, hk, hv, ht, hf, hk2, hv2, -⟩ := d
  refine ⟨rk, ru, kv', vv', e, ⟨?_, ?_⟩, ⟨?_, ht, ?_, fun j hj => ?_⟩⟩
  · have := ownsRow_ra hk (by simp [kCells])
    simpa [rpOf, kCells, List.map_map, Function.comp_def] using this
  · have := ownsRow_ra hv (by simp [vCells])
    simpa [rpOf, vCells, List.map_map, Function.comp_def] using this
  · exact h.fr.under hf fun j hj => by
      rcases hj with rfl | hj | hj
      · omega
      · have := (World.ownsRow.lt h.tab.ks j hj).1; omega
      · have := (World.ownsRow.lt h.tab.vs j hj).1; omega
  · refine h.own.fr hf fun j hj e2 => ?_
    obtain ⟨a1, a2, a3⟩ := h.ap j hj
    rcases e2 with e2 | e2 | e2
    · exact a1 e2
    · exact a2 e2
    · exact a3 e2
  · obtain ⟨a1, a2, a3⟩ := h.ap j hj
    have hlt := (World.ownsRow.lt h.own j hj).2
    refine ⟨a1, fun e2 => ?_, fun e2 => ?_⟩
    · rcases hk2 j e2 with e3 | e3
      · exact a2 e3
      · omega
    · rcases hv2 j e2 with e3 | e3
      · exact a3 e3
      · omega
/-- It goes behind the others. -/
theorem PlS.app {w1 w : World} {pt : Nat} {v8 : Value} {us : List Cl} {kv vv : Value} {L : List Kv} (h : PlS w1 w pt v8 us kv vv L) (hp : w1.heap.size = pt) (c : Cl) (hk : ∃ a n q, c.R.kv = .slice a n q) (hv : ∃ a n q, c.R.vv = .slice a n q) (hl : us.length ≤ 4000000000) :
    ∃ g cap w2, (Builtin.append_ #[63, 63] 63 #[v8, .slice (some ⟨w.heap.size, 0, none⟩) 1 1]).run Tryz.prog (w.alloc (.cells (c9 c).toArray 70)) = .ok (.slice (some ⟨g, 0, none⟩) (us.length + 1) cap) w2 ∧ PlS w1 w2 pt (.slice (some ⟨g, 0, none⟩) (us.length + 1) cap) (us ++ [c]) kv vv L := by
  obtain ⟨g, cap, w2, h1, h2, h3, h4⟩ := h.own.app (by have := h.fr.size; omega) c hk hv hl
  have hpt := heap_lt h.tab.obj
  refine ⟨g, cap, w2, h1, ⟨h.fr.under h3 (fun j hj => by have := (World.ownsRow.lt h.own j hj).1; omega), h.tab.fr h3 (fun e => (h.ap pt e).1 rfl) (fun j hj e => (h.ap j e).2.1 hj) (fun j hj e => (h.ap j e).2.2 hj), h2, fun j hj => ?_⟩⟩
  have hjg : j = g := by simpa [Value.ownBlock] using hj.symm
  subst hjg
  rcases h4 with h4 | h4
  · exact h.ap j h4
  · refine ⟨by omega, fun e => ?_, fun e => ?_⟩
    · have := (World.ownsRow.lt h.tab.ks j e).2; omega
    · have := (World.ownsRow.lt h.tab.vs j e).2; omega

theorem Ord.unique {ws : List Nat} {left : Nat} {acc : List Nat} {r : Option (List Nat)} (h : Ord ws left acc r) : ∀ {r' : Option (List Nat)}, Ord ws left acc r' → r = r' := by
  induction h with
  | done acc =>
    intro r' h'
    cases h' with
    | done => rfl
    | stuck _ _ h => exact absurd rfl h
    | step _ _ _ _ h => exact absurd rfl h
  | stuck left acc h1 h2 =>
    intro r' h'
    cases h' with
    | done => exact absurd rfl h1
    | stuck => rfl
    | step _ i _ _ _ h3 => rw [h2] at h3; cases h3
  | step left i acc r h1 h2 h3 ih =>
    intro r' h'
    cases h' with
    | done => exact absurd rfl h1
    | stuck _ _ _ h4 => rw [h2] at h4; cases h4
    | step _ j _ _ _ h4 h5 => rw [h2] at h4; cases h4; exact ih h5
/-! ### two Publishes of one key -/
abbrev aB : ByteArray := ⟨#[97]⟩
def rv1 : RV := ⟨⟨true, ⟨#[]⟩, [], []⟩, .slice none 0 0, .slice none 0 0⟩
def lm (c : Int) (b : Bool) (R : RV) : Mo := ⟨c, b, 1, 1, aB, R⟩
def livH : List Mo := [lm 0 true rv0, lm 1 true rv0, lm 0 false rv0, lm 1 false rv1]
def livC : List Cl := [⟨0, 2, 1, 1, aB, rv0⟩, ⟨1, 3, 1, 1, aB, rv1⟩]
theorem rp0 : rightReplyB 1 rv0.r = true := by unfold rightReplyB noKeysB rv0; simp [em0]
theorem rp1 : rightReplyB 1 rv1.r = true := by unfold rightReplyB noKeysB rv1; simp [em0]
theorem ro1 : rightOpB 1 1 aB = true := by unfold rightOpB; simp
theorem liv_ref : RefOk livH livC := by
  refine ⟨by decide, rfl, fun c hc => ?_, rfl⟩
  have hc : c = ⟨0, 2, 1, 1, aB, rv0⟩ ∨ c = ⟨1, 3, 1, 1, aB, rv1⟩ := by simpa [livC] using hc
  rcases hc with rfl | rfl
  · refine ⟨lm 0 true rv0, lm 0 false rv0, ⟨rfl, rfl, rfl, ro1, zero0, rfl, rfl, rfl, by decide, rfl, rfl, fun j h1 h2 x hx => ?_, rfl, ?_, rp0, rfl⟩⟩
    · have h1' : 0 < j := h1
      have h2' : j < 2 := h2
      have : j = 1 := by omega
      subst this
      have : x = lm 1 true rv0 := by simpa [livH] using hx.symm
      subst this
      show (1 : Int) ≠ 0
      decide
    · simp [sameOp, lm]
  · refine ⟨lm 1 true rv0, lm 1 false rv1, ⟨rfl, rfl, rfl, ro1, zero0, rfl, rfl, rfl, by decide, rfl, rfl, fun j h1 h2 x hx => ?_, rfl, ?_, rp1, rfl⟩⟩
    · have h1' : 1 < j := h1
      have h2' : j < 3 := h2
      have : j = 2 := by omega
      subst this
      have : x = lm 0 false rv0 := by simpa [livH] using hx.symm
      subst this
      show (0 : Int) ≠ 1
      decide
    · simp [sameOp, lm]
theorem liv_calls : callsX livH = some livC := ref_calls liv_ref
theorem liv_waits : waitsX livC = [2, 0] := by decide
theorem liv_ord : Ord [2, 0] 3 [] (some [1, 0]) := by
  refine Ord.step 3 1 [] _ (by decide) (by decide) ?_
  rw [show dropS 3 1 = 1 by decide]
  refine Ord.step 1 0 _ _ (by decide) (by decide) ?_
  rw [show dropS 1 0 = 0 by decide]
  exact Ord.done _
theorem liv_possible : possibleB (madeX livC) livC = true := by
  unfold possibleB
  rw [List.all_eq_true]
  intro c hc
  have hc : c = ⟨0, 2, 1, 1, aB, rv0⟩ ∨ c = ⟨1, 3, 1, 1, aB, rv1⟩ := by simpa [livC] using hc
  rcases hc with rfl | rfl <;> rfl
/-- What Order tells of it. -/
theorem liv_order {w w' : World} {lv : Value} {ok : Bool} {er : Int} (h : OrderE livH w w' lv ok er) : ok = true ∧ er = 0 ∧ RowAt w' lv ([1, 0].map vI) := by
  rcases h with ⟨e, -⟩ | ⟨cs, e, e2, h⟩
  · rw [liv_calls] at e; cases e
  · rw [liv_calls] at e
    cases e
    rcases h with ⟨h1, -⟩ | ⟨acc, h1, h2, h3, h4⟩
    · rcases h1 with h1 | h1
      · rw [liv_possible] at h1; cases h1
      · rw [liv_waits] at h1
        have := liv_ord.unique h1
        cases this
    · rw [liv_waits] at h2
      have := liv_ord.unique h2
      cases this
      exact ⟨h3, e2, ownsRow_ra h4 rfl⟩
theorem liv_hat {w : World} {g : Nat} (hb : w.heap[g]? = some (.cells (livH.map m9).flatten.toArray 41)) : HAt2 w (.slice (some ⟨g, 0, none⟩) 4 4) livH := by
  have ha : ∀ m ∈ livH, m.R = rv0 ∨ m.R = rv1 := by
    intro m hm
    have hm : m = lm 0 true rv0 ∨ m = lm 1 true rv0 ∨ m = lm 0 false rv0 ∨ m = lm 1 false rv1 := by simpa [livH] using hm
    rcases hm with rfl | rfl | rfl | rfl
    · exact Or.inl rfl
    · exact Or.inl rfl
    · exact Or.inl rfl
    · exact Or.inr rfl
  have hc : ∀ m ∈ livH, (m.c = 0 ∨ m.c = 1) ∧ m.ky = 1 := by
    intro m hm
    have hm : m = lm 0 true rv0 ∨ m = lm 1 true rv0 ∨ m = lm 0 false rv0 ∨ m = lm 1 false rv1 := by simpa [livH] using hm
    rcases hm with rfl | rfl | rfl | rfl <;> simp [lm]
  have hat : ∀ m ∈ livH, m.R.At w ∧ m.R.r.keys = [] := fun m hm => by
    rcases ha m hm with e | e
    · rw [e]; exact ⟨rv0_at w, rfl⟩
    · rw [e]; exact ⟨⟨RowAt.nil w, RowAt.nil w⟩, rfl⟩
  refine ⟨⟨some ⟨g, 0, none⟩, 4, rfl, fun _ => ⟨g, 0, rfl, fun i hi j hj => ?_⟩, fun m hm => ⟨(hat m hm).1, by rw [(hat m hm).2]; simp, ?_⟩⟩, fun m hm => ⟨by rw [(hat m hm).2]; simp, ?_, by rw [(hat m hm).2]; simp⟩⟩
  · rw [cell_of hb, Nat.zero_add, List.getElem?_toArray]
    rw [flat_get (fun r hr => by obtain ⟨m, -, rfl⟩ := List.mem_map.1 hr; rfl) i j (by simpa using hi) hj, List.getElem_map]
  · rcases (hc m hm).1 with e | e <;> rw [e] <;> exact ⟨by decide, by decide⟩
  · rw [(hc m hm).2]; exact ⟨by decide, by decide⟩
set_option maxRecDepth 100000 in
set_option maxHeartbeats 4000000 in
/-- lives. -/
theorem lives_any (w : World) : Calls Tryz.prog 5 #[] w fun e w' => e = .returned (.bool true) ∧ Fr (fun _ => False) w w' := by
  go_enter Tryz.func5, Tryz.ntmps5
  go_upto_region 3 with fail
  obtain ⟨W, eW⟩ : ∃ W, W = ((w.alloc (.cells #[vI 1, vI 1, .string aB] 28)).alloc (.cells (livH.map m9).flatten.toArray 41)) := ⟨_, rfl⟩
  have hf0 : Fr (fun _ => False) w W := by rw [eW]; exact ((Fr.refl _ w).alloc _).alloc _
  have hb0 : W.heap[w.heap.size + 1]? = some (.cells (livH.map m9).flatten.toArray 41) := by
    rw [eW]
    have := heap_alloc_last (w.alloc (.cells #[vI 1, vI 1, .string aB] 28)) (.cells (livH.map m9).flatten.toArray 41)
    rwa [show (w.alloc (.cells #[vI 1, vI 1, .string aB] 28)).heap.size = w.heap.size + 1 by simp] at this
  have hor := order8_any _ livH W (liv_hat hb0)
  have HF0 : Hd (Fr (fun _ => False) w W) := hf0
  show Code.wp Tryz.prog _ _ _ ((w.alloc (.cells #[vI 1, vI 1, .string aB] 28)).alloc (.cells (livH.map m9).flatten.toArray 41))
  rw [← eW]
  clear hf0 hb0 eW
  go_upto_region 4 with (go_at_call 7; refine hor.mono ?_; rintro _ w3 ⟨lv, ok, er, rfl, hf3, hE⟩; obtain ⟨rfl, rfl, hrow⟩ := liv_order hE; have HF3 : Hd (Fr _ _ _) := hf3; clear hf3 hE)
  have hrow2 : RowAt (w3.alloc (.cells #[vI 1, vI 0] 3)) (.slice (some ⟨w3.heap.size, 0, none⟩) 2 2) ([1, 0].map vI) := by
    have hb := heap_alloc_last w3 (.cells #[vI 1, vI 0] 3)
    refine ⟨some ⟨w3.heap.size, 0, none⟩, 2, rfl, fun _ => ⟨_, 0, rfl, fun i hi => ?_⟩⟩
    rw [cell_of hb, Nat.zero_add]
    have hi : i < 2 := hi
    rcases (show i = 0 ∨ i = 1 by omega) with rfl | rfl <;> rfl
  have hf4 : Fr (fun _ => False) w3 (w3.alloc (.cells #[vI 1, vI 0] 3)) := (Fr.refl _ w3).alloc _
  have HEQ : Hd (Calls Tryz.prog 10 #[lv, .slice (some ⟨w3.heap.size, 0, none⟩) 2 2] (w3.alloc (.cells #[vI 1, vI 0] 3)) fun e w' => e = .returned (.bool true) ∧ Fr (fun _ => False) w3 w') := by
    refine (eqInts_any lv _ [1, 0] [1, 0] _ (hrow.fr hf4 (fun _ _ _ e => e)) hrow2 (by simp) (by simp)).mono ?_
    rintro _ w' ⟨rfl, f⟩
    exact ⟨by simp, hf4.trans f⟩
  clear hrow2 hf4 hrow hor
  go_wp2_with (go_at_call 10; refine HEQ.out.mono ?_; rintro _ w5 ⟨rfl, hf5⟩; have HF5 : Hd (Fr _ _ _) := hf5; clear hf5)
  go_ret
  exact ⟨rfl, HF0.out.trans (HF3.out.trans HF5.out)⟩
end Go.Proofs.YtihicdbplmdjiaaGreat
namespace Go.Proofs.YtihicdbplmdjiaaGreat.Pl
open Go.ChangeShapes Go.WideShapes Go.ChangeAt Go.RowKit

theorem knob : ownKnob Tryz.prog.godebug = none := by kernel_rfl
theorem laysOut : laidOutB Tryz.prog = true := by kernel_rfl
theorem under4 : Tryz.prog.underlying 4 = some .bool := by kernel_rfl
theorem under9 : Tryz.prog.underlying 9 = some .string := by kernel_rfl
theorem cells3 : Tryz.prog.cellsOf 3 = 1 := by kernel_rfl
theorem cells9 : Tryz.prog.cellsOf 9 = 1 := by kernel_rfl
theorem cells23 : Tryz.prog.cellsOf 28 = 3 := by kernel_rfl
theorem reach_is : reachBytes = 140737488351232 := by decide
theorem fr_below {w w' : World} (hf : Fr (fun _ => False) w w') : Below w.heap.size w w' := ⟨hf.os, hf.tape, hf.output, hf.size, fun k hk => hf.block k hk (fun h => h)⟩
theorem in64_of {z : Int} (hw : (Lit.int .i64 z).wf = true) : In64 z := by
  have h : IntKind.i64.min ≤ z ∧ z ≤ 9223372036854775807 := by simpa [Lit.wf] using hw
  exact ⟨h.1, h.2⟩
theorem ints_of {H : Type} {enc : TypeId × Value → H} {W : World} {n : Nat} {cs : List Value} {x : DataW H × List MemPlace} (h : DataW.trod enc Tryz.prog W 0 (fun _ => true) true n 3 cs = some x) : ∃ z : Int, cs = [vI z] ∧ In64 z := by
  obtain ⟨z, e, -, hw⟩ := DataW.trod_int under3 h
  exact ⟨z, e, in64_of hw⟩
def fld (name : String) (type offset byteOffset : Nat) : Field := { name := name, type := type, offset := offset, embedded := false, tag := "", pkgPath := "", byteOffset := byteOffset }
theorem under23 : Tryz.prog.underlying 28 = some (.struct #[fld "Kind" 3 0 0, fld "Key" 3 1 8, fld "Value" 9 2 16]) := by kernel_rfl
theorem len_cons {n : Nat} : ∀ {cs : List Value}, cs.length = n + 1 → ∃ c r, cs = c :: r ∧ r.length = n
  | c :: r, h => ⟨c, r, rfl, by simpa using h⟩

set_option maxRecDepth 100000 in
/-- A call that came in. -/
theorem op_of {H : Type} {enc : TypeId × Value → H} {W : World} {n : Nat} {cs : List Value} {x : DataW H × List MemPlace} (h : DataW.trod enc Tryz.prog W 0 (fun _ => true) true n 28 cs = some x) :
    ∃ (kd ky : Int) (s : ByteArray), cs = [vI kd, vI ky, .string s] ∧ In64 kd ∧ In64 ky ∧ ∃ q ∈ x.1.weights Tryz.prog 28, s.size ≤ q := by
  obtain ⟨xs, k, -, rfl, hcl, hxl, hf⟩ := DataW.trod_struct under23 h
  rw [cells23] at hcl
  have hxl : xs.length = 3 := hxl
  obtain ⟨c0, r0, rfl, hl1⟩ := len_cons hcl
  obtain ⟨c1, r1, rfl, hl2⟩ := len_cons hl1
  obtain ⟨c2, r2, rfl, hl3⟩ := len_cons hl2
  obtain rfl := List.length_eq_zero_iff.1 hl3
  have g0 := hf 0 (fld "Kind" 3 0 0) rfl
  have g1 := hf 1 (fld "Key" 3 1 8) rfl
  have g2 := hf 2 (fld "Value" 9 2 16) rfl
  have e0 : xs[0]? = some (xs[0]'(by omega)) := List.getElem?_eq_getElem (by omega)
  have e1 : xs[1]? = some (xs[1]'(by omega)) := List.getElem?_eq_getElem (by omega)
  have e2 : xs[2]? = some (xs[2]'(by omega)) := List.getElem?_eq_getElem (by omega)
  rw [e0] at g0
  rw [e1] at g1
  rw [e2] at g2
  simp only [fld, cells3, cells9, List.drop_zero, List.drop_succ_cons, List.take_succ_cons, List.take_zero] at g0 g1 g2
  obtain ⟨z0, f0, i0⟩ := ints_of g0
  obtain ⟨z1, f1, i1⟩ := ints_of g1
  obtain ⟨s, f2, hx2, -⟩ := DataW.trod_string under9 g2
  have f0 := (List.cons.inj f0).1
  have f1 := (List.cons.inj f1).1
  have f2 := (List.cons.inj f2).1
  subst f0
  subst f1
  subst f2
  refine ⟨z0, z1, s, rfl, i0, i1, s.size, ?_, Nat.le_refl _⟩
  simp only [DataW.weights, under23]
  refine DataW.weights_mem_each (j := 2) (t := 9) (d := (xs[2]'(by omega)).1) rfl (by rw [List.getElem?_map, e2]; rfl) s.size ?_
  rw [hx2]
  have hw : ∀ (l : List UInt8), l.length ∈ (DataW.lit (H := H) (.string l)).weights Tryz.prog 9 := fun l => by simp [DataW.weights]
  exact hw s.data.toList

end Go.Proofs.YtihicdbplmdjiaaGreat.Pl
