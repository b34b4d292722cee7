import Derived.Test.YtihicdbplmdjiaaQH6J
import Derived.Test.YtihicdbplmdjiaaQFaJ
namespace Go.Proofs.Ytihicdbplmdjiaa
set_option linter.unusedVariables false
set_option linter.unusedSimpArgs false

theorem Cps.pl {w : World} {B : Nat} {lv : Value} {h ms : List Mo} (hc : Cps w B lv h ms) (hl : ms.length = h.length) : ms.map Mo.pl = h.map Mo.pl := by
  refine List.ext_getElem? fun k => ?_
  rw [List.getElem?_map, List.getElem?_map]
  cases e : ms[k]? with
  | none =>
    have : ms.length ≤ k := List.getElem?_eq_none_iff.1 e
    rw [List.getElem?_eq_none (by omega)]
  | some m' =>
    obtain ⟨m, hm, hcp⟩ := hc.2 k m' e
    obtain ⟨kv, vv, e2⟩ := hcp.eq
    rw [hm, e2]; rfl
/-- What Order tells of a copy, and of the history itself: an order, if any. -/
theorem copy_order {h h' : List Mo} (hh : h'.map Mo.pl = h.map Mo.pl) {w w' : World} {lv : Value} {ok : Bool} {er : Int} (ho : OrderE h' w w' lv ok er) :
    (callsX h = none ∧ lv = .slice none 0 0 ∧ ok = false ∧ er = 230) ∨ ∃ cs, callsX h = some cs ∧ er = 0 ∧
      (((possibleB (madeX cs) cs = false ∨ Ord (waitsX cs) (2 ^ cs.length - 1) [] none) ∧ lv = .slice none 0 0 ∧ ok = false) ∨
       ∃ acc, possibleB (madeX cs) cs = true ∧ Ord (waitsX cs) (2 ^ cs.length - 1) [] (some acc) ∧ ok = true ∧ w'.ownsRow w.heap.size 3 1 lv acc.length (acc.map (fun i => vI ((cs[i]?.map Cl.b).getD 0 : Nat)))) := by
  rcases ho with ⟨h1, h2, h3, h4⟩ | ⟨cs', h1, h2, h3⟩
  · rcases calls_same hh with ⟨-, e⟩ | ⟨cs, _, e, -, -⟩
    · exact Or.inl ⟨e, h2, h3, h4⟩
    · rw [h1] at e; cases e
  · rcases calls_same hh with ⟨e, -⟩ | ⟨cs2, cs, e, e', hc⟩
    · rw [h1] at e; cases e
    · rw [h1] at e
      cases e
      have hl : cs'.length = cs.length := by simpa using congrArg List.length hc
      refine Or.inr ⟨cs, e', h2, ?_⟩
      rcases h3 with ⟨q1, q2, q3⟩ | ⟨acc, q1, q2, q3, q4⟩
      · refine Or.inl ⟨?_, q2, q3⟩
        rwa [possibleX_same hc, waits_same hc, hl] at q1
      · refine Or.inr ⟨acc, by rw [← possibleX_same hc]; exact q1, by rw [← waits_same hc, ← hl]; exact q2, q3, ?_⟩
        have eb : ∀ i, (cs'[i]?.map Cl.b).getD 0 = (cs[i]?.map Cl.b).getD 0 := fun i => by
          have := pl_get hc i
          cases e : cs'[i]? <;> cases e2 : cs[i]? <;> rw [e, e2] at this <;> simp at this ⊢
          exact (Cl.pl_eq.1 this).1
        simp only [eb] at q4
        exact q4
end Go.Proofs.Ytihicdbplmdjiaa

namespace Go.Proofs.Ytihicdbplmdjiaa
open Go.RowKit (wrap32 wrap64)
set_option linter.unusedVariables false
set_option linter.unusedSimpArgs false

theorem long1_any (n : Int) (w : World) : Calls Try.prog 26 #[vI n] w fun e w' => e = .returned (.bool (decide (2147483647 < n))) ∧ Fr (fun _ => False) w w' := by
  obtain ⟨D, hD⟩ : ∃ D, D = decide (2147483647 < n) := ⟨_, rfl⟩
  by_cases h : 2147483647 < n
  · have e : D = true := by rw [hD]; simpa using h
    rw [← hD, e]
    clear hD
    go_enter Try.func26, Try.ntmps26
    go_wp2_with fail
    go_ret
    exact ⟨by simp, Fr.refl _ _⟩
  · have e : D = false := by rw [hD]; simpa using h
    rw [← hD, e]
    clear hD
    go_enter Try.func26, Try.ntmps26
    go_wp2_with fail
    go_ret
    exact ⟨by simp, Fr.refl _ _⟩
end Go.Proofs.Ytihicdbplmdjiaa

namespace Go.Proofs.Ytihicdbplmdjiaa
open Go.RowKit (wrap32 wrap64)
set_option linter.unusedVariables false
set_option linter.unusedSimpArgs false

/-- How long the first k moments are. -/
def sumL (h : List Mo) : Nat → Nat
  | 0 => h.length
  | k + 1 => sumL h k + (match h[k]? with | some m => m.R.r.keys.length + m.R.r.vals.length | none => 0)
theorem sumL_mono (h : List Mo) : ∀ n, h.length ≤ sumL h n ∧ ∀ k m, k < n → h[k]? = some m → m.R.r.keys.length + m.R.r.vals.length ≤ sumL h n
  | 0 => ⟨Nat.le_refl _, fun k m hk => absurd hk (by omega)⟩
  | n + 1 => by
    have ih := sumL_mono h n
    unfold sumL
    refine ⟨by omega, fun k m hk hm => ?_⟩
    by_cases e : k = n
    · subst e; rw [hm]; simp only; omega
    · have := ih.2 k m (by omega) hm; omega
set_option maxRecDepth 100000 in
set_option maxHeartbeats 4000000 in
theorem long_any (hv : Value) (h : List Mo) (w : World) (hh : HAt w hv h) (hl : h.length ≤ 1000000000000000000) (hvl : ∀ m ∈ h, m.R.r.vals.length ≤ 1000000000000000000) :
    Calls Try.prog 9 #[hv] w fun e w' => ∃ B, e = .returned (.bool B) ∧ Fr (fun _ => False) w w' ∧ (B = false → h.length ≤ 2147483647 ∧ ∀ m ∈ h, m.R.r.keys.length ≤ 2147483647 ∧ m.R.r.vals.length ≤ 2147483647) := by
  obtain ⟨ad, cap, rfl, h1, h2⟩ := hh
  have HX : Hd (∀ i (hi : i < h.length), ∃ g o, ad = some ⟨g, o, none⟩ ∧ ∀ W, Fr (fun _ => False) w W → ∀ j, j < 9 → W.cell? ⟨g, o + i * 9 + j, none⟩ = (m9 h[i])[j]?) := fun i hi => by
    obtain ⟨g, o, ea, hc⟩ := h1 (fun e => by rw [e] at hi; simp at hi)
    refine ⟨g, o, ea, fun W f j hj => (f.cell ?_ (fun e => e)).trans (hc i hi j hj)⟩
    have := hc i hi j hj
    rw [List.getElem?_eq_getElem (by exact hj)] at this
    exact cell_lt this
  have HM : Hd (∀ m ∈ h, m.R.At w ∧ m.R.r.keys.length ≤ 1000000000000000000 ∧ m.R.r.vals.length ≤ 1000000000000000000) := fun m hm => ⟨(h2 m hm).1, (h2 m hm).2.1, hvl m hm⟩
  have HS : Hd (h.length ≤ sumL h 0) := (sumL_mono h 0).1
  have HB : Hd (∀ n, h.length = n → sumL h n ≤ 2147483647 → h.length ≤ 2147483647 ∧ ∀ m ∈ h, m.R.r.keys.length ≤ 2147483647 ∧ m.R.r.vals.length ≤ 2147483647) := fun n e hs => by
    have := sumL_mono h n
    refine ⟨by omega, fun m hm => ?_⟩
    obtain ⟨k, hk, rfl⟩ := List.getElem_of_mem hm
    have := this.2 k _ (by omega) (List.getElem?_eq_getElem hk)
    omega
  have HZ : Hd (sumL h 0 = h.length) := rfl
  obtain ⟨n, en⟩ : ∃ n, n = h.length := ⟨_, rfl⟩
  have EN : Hd (n = h.length) := en
  rw [← en] at hl ⊢
  clear h1 h2 en hvl
  have LG : Hd (∀ (q : Int) (W : World), Calls Try.prog 26 #[vI q] W fun e w' => e = .returned (.bool (decide (2147483647 < q))) ∧ Fr (fun _ => False) W w') := long1_any
  go_enter Try.func9, Try.ntmps9
  go_wp2_with fail
  go_loopw [3, 4] (fun v3 v4 wr => ∃ k : Nat, v4 = vI k ∧ v3 = vI (sumL h k) ∧ k ≤ n ∧ sumL h k ≤ 4000000000000000000 ∧ Hd (Fr (fun _ => False) w wr)) (fun _ v _ => match v with | .int _ q => n - q.toNat | _ => 0)
  case atStart => exact ⟨0, rfl, by rw [HZ.out, ← EN.out], by omega, by rw [HZ.out, ← EN.out]; omega, Fr.refl _ _⟩
  case round =>
    obtain ⟨k, rfl, rfl, hk, hs, HF⟩ := hrel
    by_cases hlt : k < n
    · have k0 : (0 : Int) ≤ k := by omega
      have k1 : (k : Int) < n := by omega
      go_wp2_with fail
      refine (LG.out _ wr).mono ?_
      rintro _ w1 ⟨rfl, hf1⟩
      have HF1 : Hd (Fr (fun _ => False) w w1) := HF.out.trans hf1
      clear hf1 HF
      by_cases hbig : (2147483647 : Int) < sumL h k
      · have hd : decide ((2147483647 : Int) < sumL h k) = true := by simpa using hbig
        rw [hd]
        clear HX HM HS HB HZ
        go_wp2_with fail
        refine (LG.out _ w1).mono ?_
        rintro _ w2 ⟨rfl, hf2⟩
        have HF2 : Hd (Fr (fun _ => False) w w2) := HF1.out.trans hf2
        rw [hd]
        clear hf2 HF1 LG
        go_wp2_with fail
        go_ret
        exact ⟨true, rfl, HF2.out, fun e => by cases e⟩
      · have hd : decide ((2147483647 : Int) < sumL h k) = false := by simpa using hbig
        rw [hd]
        have hkl : k < h.length := by rw [← EN.out]; exact hlt
        obtain ⟨g, o, rfl, hc0⟩ := HX.out k hkl
        have hc := hc0 w1 HF1.out
        obtain ⟨m, em⟩ : ∃ m, m = h[k] := ⟨_, rfl⟩
        have hm := HM.out _ (List.getElem_mem hkl)
        rw [← em] at hc hm
        obtain ⟨ka, kc, ek⟩ := row_slice hm.1.1
        obtain ⟨va, vc, ev⟩ := row_slice hm.1.2
        simp only [List.length_map] at ek ev
        have x7 := hc 7 (by omega)
        have x8 := hc 8 (by omega)
        unfold m9 at x7 x8
        simp only [List.getElem?_cons_zero, List.getElem?_cons_succ] at x7 x8
        rw [ek] at x7
        rw [ev] at x8
        have hn : sumL h (k + 1) = sumL h k + (m.R.r.keys.length + m.R.r.vals.length) := by
          show sumL h k + _ = _
          rw [List.getElem?_eq_getElem hkl, ← em]
        obtain ⟨q1, e1⟩ : ∃ q, q = m.R.r.keys.length := ⟨_, rfl⟩
        obtain ⟨q2, e2⟩ : ∃ q, q = m.R.r.vals.length := ⟨_, rfl⟩
        obtain ⟨q0, e0⟩ : ∃ q, q = sumL h k := ⟨_, rfl⟩
        rw [← e1] at x7 hn hm
        rw [← e2] at x8 hn hm
        rw [← e0] at hn hbig hs ⊢
        have b1 := hm.2.1
        have b2 := hm.2.2
        have HN : Hd (sumL h (k + 1) = q0 + (q1 + q2)) := hn
        clear em hc hc0 hkl HX HM HS HB HZ hm hn ek ev e1 e2 e0 LG hd
        go_wp2_with fail
        go_region
        all_goals go_wp2_with fail
        all_goals exact ⟨⟨k + 1, by simp, by rw [HN.out]; simp; omega, by omega, by rw [HN.out]; omega, HF1.out.drew⟩, by simp; omega⟩
    · have hlt' : decide (k < n) = false := by simp; omega
      have ek : k = n := by omega
      subst ek
      go_wp2_with fail
      refine (LG.out _ wr).mono ?_
      rintro _ w1 ⟨rfl, hf1⟩
      have HF1 : Hd (Fr (fun _ => False) w w1) := HF.out.trans hf1
      have hfin : decide ((2147483647 : Int) < sumL h k) = false → h.length ≤ 2147483647 ∧ ∀ m ∈ h, m.R.r.keys.length ≤ 2147483647 ∧ m.R.r.vals.length ≤ 2147483647 := fun e => HB.out k EN.out.symm (by simp at e; omega)
      have HFIN : Hd (decide ((2147483647 : Int) < sumL h k) = false → h.length ≤ 2147483647 ∧ ∀ m ∈ h, m.R.r.keys.length ≤ 2147483647 ∧ m.R.r.vals.length ≤ 2147483647) := hfin
      clear hfin hf1 HF LG HX HM HS HB HZ
      go_wp2_with fail
      go_ret
      exact ⟨_, rfl, HF1.out, fun e => ⟨by rw [EN.out]; exact (HFIN.out e).1, (HFIN.out e).2⟩⟩
end Go.Proofs.Ytihicdbplmdjiaa

namespace Go.Proofs.Ytihicdbplmdjiaa
open Go.RowKit (wrap32 wrap64)
set_option linter.unusedVariables false
set_option linter.unusedSimpArgs false

/-! ### played: the plain side -/
theorem map_zip {L : List Kv} {ks : List Int} {vs : List ByteArray} (hl : ks.length = vs.length) : (L.map Prod.fst = ks ∧ L.map Prod.snd = vs) ↔ L = ks.zip vs := by
  constructor
  · rintro ⟨rfl, rfl⟩
    induction L with
    | nil => rfl
    | cons a L ih => simp only [List.map_cons, List.zip_cons_cons]; rw [← ih (by simp)]
  · rintro rfl
    exact ⟨List.map_fst_zip (by omega), List.map_snd_zip (by omega)⟩
def rpOf (R : RepT) : Rpl := ⟨R.ok, R.val, R.L.map Prod.fst, R.L.map Prod.snd⟩
theorem rp_iff {R : RepT} {c : Cl} (hl : c.R.r.keys.length = c.R.r.vals.length) : rplB (rpOf R) c.R.r = repB R (repT c) := by
  have : rpOf R = c.R.r ↔ R = repT c := by
    obtain ⟨b, e, kd, ky, v, ⟨⟨ok, val, ks, vs⟩, kv, vv⟩⟩ := c
    obtain ⟨ok', val', L⟩ := R
    simp only at hl
    unfold rpOf
    simp only [Rpl.mk.injEq, RepT.mk.injEq]
    rw [map_zip hl]
  rw [Bool.eq_iff_iff, rplB_iff, repB_iff]
  exact this
theorem right_len {c : Cl} (h : rightReplyB c.kd c.R.r = true) : c.R.r.keys.length = c.R.r.vals.length := by
  unfold rightReplyB at h
  split at h
  · simp only [Bool.and_eq_true, decide_eq_true_eq] at h
    exact h.1.2
  · simp only [Bool.and_eq_true] at h
    have := h.2
    unfold noKeysB at this
    simp at this
    rw [this.1, this.2]; rfl
theorem atX_none {cs : List Cl} {o : Int} (h : ∀ c ∈ cs, (c.b : Int) ≠ o) : atX cs o = none := by
  unfold atX
  exact List.find?_eq_none.2 fun c hc => by simpa using h c hc
theorem playX_none {cs us : List Cl} {o : Int} {r : List Int} (h : atX cs o = none) : playX cs us (o :: r) = false := by unfold playX; rw [h]
theorem playX_some {cs us : List Cl} {o : Int} {r : List Int} {c : Cl} (h : atX cs o = some c) : playX cs us (o :: r) = (fitsB us c && playX cs (us ++ [c]) r) := by
  conv => lhs; unfold playX
  rw [h]
theorem fits_bad {us : List Cl} {c d : Cl} (hd : d ∈ us) (h : d.b = c.b ∨ c.e < d.b) : fitsB us c = false := by
  unfold fitsB
  rw [Bool.and_eq_false_iff]
  left
  rw [List.all_eq_false]
  refine ⟨d, hd, ?_⟩
  rcases h with h | h <;> simp [h]
theorem fits_rep {us : List Cl} {c : Cl} (h : ∀ d ∈ us, d.b ≠ c.b ∧ ¬ c.e < d.b) : fitsB us c = repB (doR (tabOf (us.map opT)) (opT c)) (repT c) := by
  unfold fitsB
  rw [show (us.all fun d => !decide (d.b = c.b) && !decide (c.e < d.b)) = true from List.all_eq_true.2 fun d hd => by simp [(h d hd).1, (h d hd).2]]
  rfl
theorem tab_snoc (us : List Cl) (c : Cl) : tabOf ((us ++ [c]).map opT) = doT (tabOf (us.map opT)) (opT c) := by
  unfold tabOf
  rw [List.map_append, List.foldl_append]; rfl
theorem insK_len (t : List Kv) (k : Int) (v : ByteArray) : (insK t k v).length = t.length + 1 := by
  induction t with
  | nil => rfl
  | cons e r ih => unfold insK; split <;> simp [ih]
theorem doT_len (t : List Kv) (o : OpT) : (doT t o).length ≤ t.length + 1 := by
  unfold doT
  split
  · split
    · omega
    · rw [insK_len]; omega
  · omega
theorem tab_len (us : List Cl) : (tabOf (us.map opT)).length ≤ us.length := by
  have key : ∀ (l : List Cl) (t : List Kv), ((l.map opT).foldl doT t).length ≤ t.length + l.length := by
    intro l
    induction l with
    | nil => intro t; simp
    | cons c l ih =>
      intro t
      have h1 := ih (doT t (opT c))
      have h2 := doT_len t (opT c)
      simp only [List.map_cons, List.foldl_cons, List.length_cons]
      omega
  have := key us []
  unfold tabOf
  simpa using this
/-! ### played: what lies in memory -/
structure PlS (w1 w : World) (pt : Nat) (v8 : Value) (us : List Cl) (kv vv : Value) (L : List Kv) : Prop where
  fr : Fr (fun _ => False) w1 w
  tab : Rt w pt pt kv vv L
  own : ROwn w pt v8 us
  ap : ∀ j, v8.ownBlock = some j → j ≠ pt ∧ kv.ownBlock ≠ some j ∧ vv.ownBlock ≠ some j
theorem PlS.go {w1 w w2 : World} {pt : Nat} {v8 : Value} {us : List Cl} {kv vv : Value} {L : List Kv} (h : PlS w1 w pt v8 us kv vv L) (f : Fr (fun _ => False) w w2) : PlS w1 w2 pt v8 us kv vv L :=
  ⟨h.fr.trans f, h.tab.fr f (fun e => e) (fun _ _ e => e) (fun _ _ e => e), h.own.fr f (fun _ _ e => e), h.ap⟩
theorem ownsRow_ra {w : World} {B e n : Nat} {v : Value} {xs : List Value} (h : w.ownsRow B e 1 v n xs) (hn : n = xs.length) : RowAt w v xs := by
  subst hn
  exact (RowB.own h).ra
/-- A call is done. -/
theorem PlS.did {w1 w w2 : World} {pt : Nat} {v8 : Value} {us : List Cl} {kv vv : Value} {L : List Kv} {o : OpT} {rv : Value} (h : PlS w1 w pt v8 us kv vv L) (hp : w1.heap.size = pt) (d : DoE w w2 pt pt kv vv L o rv) :
    ∃ rk ru kv' vv', rv = RV.V ⟨rpOf (doR L o), rk, ru⟩ ∧ RV.At w2 ⟨rpOf (doR L o), rk, ru⟩ ∧ PlS w1 w2 pt v8 us kv' vv' (doT L o) := by
  obtain ⟨rk, ru, kv', vv', e, hk, hv, ht, hf, hk2, hv2, -⟩ := d
  refine ⟨rk, ru, kv', vv', e, ⟨?_, ?_⟩, ⟨?_, ht, ?_, fun j hj => ?_⟩⟩
  · have := ownsRow_ra hk (by simp [kCells])
    simpa [rpOf, kCells, List.map_map, Function.comp_def] using this
  · have := ownsRow_ra hv (by simp [vCells])
    simpa [rpOf, vCells, List.map_map, Function.comp_def] using this
  · exact h.fr.under hf fun j hj => by
      rcases hj with rfl | hj | hj
      · omega
      · have := (World.ownsRow.lt h.tab.ks j hj).1; omega
      · have := (World.ownsRow.lt h.tab.vs j hj).1; omega
  · refine h.own.fr hf fun j hj e2 => ?_
    obtain ⟨a1, a2, a3⟩ := h.ap j hj
    rcases e2 with e2 | e2 | e2
    · exact a1 e2
    · exact a2 e2
    · exact a3 e2
  · obtain ⟨a1, a2, a3⟩ := h.ap j hj
    have hlt := (World.ownsRow.lt h.own j hj).2
    refine ⟨a1, fun e2 => ?_, fun e2 => ?_⟩
    · rcases hk2 j e2 with e3 | e3
      · exact a2 e3
      · omega
    · rcases hv2 j e2 with e3 | e3
      · exact a3 e3
      · omega
/-- It goes behind the others. -/
theorem PlS.app {w1 w : World} {pt : Nat} {v8 : Value} {us : List Cl} {kv vv : Value} {L : List Kv} (h : PlS w1 w pt v8 us kv vv L) (hp : w1.heap.size = pt) (c : Cl) (hk : ∃ a n q, c.R.kv = .slice a n q) (hv : ∃ a n q, c.R.vv = .slice a n q) (hl : us.length ≤ 4000000000) :
    ∃ g cap w2, (Builtin.append_ #[39, 39] 39 #[v8, .slice (some ⟨w.heap.size, 0, none⟩) 1 1]).run Try.prog (w.alloc (.cells (c9 c).toArray 61)) = .ok (.slice (some ⟨g, 0, none⟩) (us.length + 1) cap) w2 ∧ PlS w1 w2 pt (.slice (some ⟨g, 0, none⟩) (us.length + 1) cap) (us ++ [c]) kv vv L := by
  obtain ⟨g, cap, w2, h1, h2, h3, h4⟩ := h.own.app (by have := h.fr.size; omega) c hk hv hl
  have hpt := heap_lt h.tab.obj
  refine ⟨g, cap, w2, h1, ⟨h.fr.under h3 (fun j hj => by have := (World.ownsRow.lt h.own j hj).1; omega), h.tab.fr h3 (fun e => (h.ap pt e).1 rfl) (fun j hj e => (h.ap j e).2.1 hj) (fun j hj e => (h.ap j e).2.2 hj), h2, fun j hj => ?_⟩⟩
  have hjg : j = g := by simpa [Value.ownBlock] using hj.symm
  subst hjg
  rcases h4 with h4 | h4
  · exact h.ap j h4
  · refine ⟨by omega, fun e => ?_, fun e => ?_⟩
    · have := (World.ownsRow.lt h.tab.ks j e).2; omega
    · have := (World.ownsRow.lt h.tab.vs j e).2; omega
end Go.Proofs.Ytihicdbplmdjiaa
