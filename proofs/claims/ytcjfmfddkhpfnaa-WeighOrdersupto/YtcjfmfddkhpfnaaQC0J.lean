import Derived.Test.YtcjfmfddkhpfnaaQO1
import Derived.Deep.DeepCutAuto
import Derived.StillTail
import Derived.Deep.RegionHeld
namespace Go.Proofs.Ytcjfmfddkhpfnaa
open Go.RowKit (wrap32 wrap64)
set_option linter.unusedVariables false
set_option linter.unusedSimpArgs false

/-- A right graph out of any. -/
def rN (l : Int) : Nat := (l % 40 + 1).toNat
def rE (n : Nat) (e : Ed) : Ed := (e.1 % n, e.2.1 % n, e.2.2 % 5 - 1)
def rR (n : Nat) (r : Int) : Int := r % n
theorem rN_is (l : Int) : ((rN l : Nat) : Int) = l % 40 + 1 ∧ 1 ≤ rN l ∧ rN l ≤ 40 := by
  unfold rN
  omega
theorem right_of (l : Int) (es : List Ed) (rs : List Int) : RightG (rN l) (es.map (rE (rN l))) (rs.map (rR (rN l))) := by
  have hn := rN_is l
  generalize rN l = n at *
  have hp : (0 : Int) < n := by omega
  refine ⟨by omega, fun e he => ?_, fun r hr => ?_⟩
  · simp only [List.mem_map] at he
    obtain ⟨e, -, rfl⟩ := he
    refine ⟨⟨Int.emod_nonneg _ (by omega), Int.emod_lt_of_pos _ hp⟩, ⟨Int.emod_nonneg _ (by omega), Int.emod_lt_of_pos _ hp⟩, ?_⟩
    show decide (-1 ≤ e.2.2 % 5 - 1 ∧ e.2.2 % 5 - 1 ≤ 3) = true
    rw [decide_eq_true_eq]
    omega
  · simp only [List.mem_map] at hr
    obtain ⟨r, -, rfl⟩ := hr
    exact ⟨Int.emod_nonneg _ (by omega), Int.emod_lt_of_pos _ hp⟩

structure Rg (w wr : World) (gb rb hb : Nat) (l : Int) (ev rv : Value) (n : Nat) (hev hrv : Value) (E : List Ed) (R : List Int) : Prop where
  g : wr.heap[gb]? = some (.cells #[vI l, ev, rv] 34)
  r : wr.heap[rb]? = some (.cells #[vI 0, .slice none 0 0, .slice none 0 0] 34)
  h : wr.heap[hb]? = some (.cells #[vI n, hev, hrv] 34)
  oe : OwnE wr (hb + 1) hev E
  oi : OwnI wr (hb + 1) hrv R
  ap : Apt hev hrv
  lt : w.heap.size ≤ gb ∧ gb < rb ∧ rb < hb
  fr : Fr (fun _ => False) w wr

theorem Rg.keep {w wr w' : World} {gb rb hb : Nat} {l : Int} {ev rv : Value} {n : Nat} {hev hrv : Value} {E : List Ed} {R : List Int} (h : Rg w wr gb rb hb l ev rv n hev hrv E R) (f : Fr (fun _ => False) wr w') : Rg w w' gb rb hb l ev rv n hev hrv E R where
  g := (f.block _ (heap_lt h.g) (fun h => h)).trans h.g
  r := (f.block _ (heap_lt h.r) (fun h => h)).trans h.r
  h := (f.block _ (heap_lt h.h) (fun h => h)).trans h.h
  oe := h.oe.fr f (fun _ _ h => h)
  oi := h.oi.fr f (fun _ _ h => h)
  ap := h.ap
  lt := h.lt
  fr := h.fr.trans f
theorem Rg.growE {w wr w6 : World} {gb rb hb : Nat} {l : Int} {ev rv : Value} {n : Nat} {hev hrv : Value} {E : List Ed} {R : List Int} (h : Rg w wr gb rb hb l ev rv n hev hrv E R) {e : Ed} {g6 cap H : Nat}
    (hown : w6.ownsRow (hb + 1) 27 3 (.slice (some ⟨g6, 0, none⟩) (E.length + 1) cap) (E.length + 1) (eCells E ++ [vI e.1, vI e.2.1, vI e.2.2])) (hg : wr.grownBy w6 hev.ownBlock) (hat : hev.ownBlock = some g6 ∨ g6 = H) (hH : wr.heap.size ≤ H) :
    w6.heap[hb]? = some (.cells #[vI n, hev, hrv] 34) ∧ Rg w (w6.setCell ⟨hb, 1, none⟩ (.slice (some ⟨g6, 0, none⟩) (E.length + 1) cap)) gb rb hb l ev rv n (.slice (some ⟨g6, 0, none⟩) (E.length + 1) cap) hrv (E ++ [e]) R := by
  obtain ⟨l1, l2, l3⟩ := h.lt
  have f6 := grown_fr hg
  have hge := fun k hk => (h.oe.ge k hk).1
  have no : ∀ k, k ≤ hb → ¬ hev.ownBlock = some k := fun k hk e => by have := hge k e; omega
  have hb6 := (f6.block hb (heap_lt h.h) (no hb (Nat.le_refl _))).trans h.h
  have f7 : Fr (fun k => k = hb) w6 (w6.setCell ⟨hb, 1, none⟩ (.slice (some ⟨g6, 0, none⟩) (E.length + 1) cap)) := Fr.setCell (S := fun k => k = hb) (Fr.refl _ w6) ⟨hb, 1, none⟩ _ (Or.inl rfl)
  have g6' := (f6.block gb (heap_lt h.g) (no gb (by omega))).trans h.g
  have r6' := (f6.block rb (heap_lt h.r) (no rb (by omega))).trans h.r
  refine ⟨hb6, (f7.block _ (heap_lt g6') (by omega)).trans g6', (f7.block _ (heap_lt r6') (by omega)).trans r6', by rw [set_of hb6]; rfl, ?_, ?_, grow_apt (w := wr) h.ap hat (fun k hk => (h.oi.ge k hk).2) hH, h.lt, ?_⟩
  · exact (OwnE.of hown).fr f7 (fun g hg e => by have := (World.ownsRow.lt hown g hg).1; omega)
  · exact (grow_keepI h.oi hg h.ap).fr f7 (fun g hg e => by have := (h.oi.ge g hg).1; omega)
  · exact (grow_fr0 h.fr hg (fun k hk => by have := hge k hk; omega)).setCell _ _ (Or.inr (by show w.heap.size ≤ hb; omega))
theorem Rg.growI {w wr w6 : World} {gb rb hb : Nat} {l : Int} {ev rv : Value} {n : Nat} {hev hrv : Value} {E : List Ed} {R : List Int} (h : Rg w wr gb rb hb l ev rv n hev hrv E R) {z : Int} {g6 cap H : Nat}
    (hown : w6.ownsRow (hb + 1) 3 1 (.slice (some ⟨g6, 0, none⟩) (R.length + 1) cap) (R.length + 1) (R.map vI ++ [vI z])) (hg : wr.grownBy w6 hrv.ownBlock) (hat : hrv.ownBlock = some g6 ∨ g6 = H) (hH : wr.heap.size ≤ H) :
    w6.heap[hb]? = some (.cells #[vI n, hev, hrv] 34) ∧ Rg w (w6.setCell ⟨hb, 2, none⟩ (.slice (some ⟨g6, 0, none⟩) (R.length + 1) cap)) gb rb hb l ev rv n hev (.slice (some ⟨g6, 0, none⟩) (R.length + 1) cap) E (R ++ [z]) := by
  obtain ⟨l1, l2, l3⟩ := h.lt
  have f6 := grown_fr hg
  have hge := fun k hk => (h.oi.ge k hk).1
  have no : ∀ k, k ≤ hb → ¬ hrv.ownBlock = some k := fun k hk e => by have := hge k e; omega
  have hb6 := (f6.block hb (heap_lt h.h) (no hb (Nat.le_refl _))).trans h.h
  have f7 : Fr (fun k => k = hb) w6 (w6.setCell ⟨hb, 2, none⟩ (.slice (some ⟨g6, 0, none⟩) (R.length + 1) cap)) := Fr.setCell (S := fun k => k = hb) (Fr.refl _ w6) ⟨hb, 2, none⟩ _ (Or.inl rfl)
  have g6' := (f6.block gb (heap_lt h.g) (no gb (by omega))).trans h.g
  have r6' := (f6.block rb (heap_lt h.r) (no rb (by omega))).trans h.r
  refine ⟨hb6, (f7.block _ (heap_lt g6') (by omega)).trans g6', (f7.block _ (heap_lt r6') (by omega)).trans r6', by rw [set_of hb6]; rfl, ?_, ?_, (grow_apt (w := wr) h.ap.symm hat (fun k hk => (h.oe.ge k hk).2) hH).symm, h.lt, ?_⟩
  · exact (grow_keepE h.oe hg h.ap.symm).fr f7 (fun g hg e => by have := (h.oe.ge g hg).1; omega)
  · exact (OwnI.of hown).fr f7 (fun g hg e => by have := (World.ownsRow.lt hown g hg).1; omega)
  · exact (grow_fr0 h.fr hg (fun k hk => by have := hge k hk; omega)).setCell _ _ (Or.inr (by show w.heap.size ≤ hb; omega))

theorem mod_int (k q : Int) (hq : 0 < q) (hq' : q ≤ 1000000000000000) (w : World) :
    Calls Try.prog 10 #[.int .i64 k, .int .i64 q] w fun e w' => e = .returned (vI (k % q)) ∧ w' = w := by
  obtain ⟨n, rfl⟩ : ∃ n : Nat, q = n := ⟨q.toNat, by omega⟩
  exact mod_any k n (by omega) (by omega) w

/-- What right answers. -/
def RgEnds (w : World) (n : Nat) (E : List Ed) (R : List Int) (e : Ending) (w' : World) : Prop :=
  ∃ hev hrv, e = .returned (.agg #[vI n, hev, hrv]) ∧ OwnE w' w.heap.size hev E ∧ OwnI w' w.heap.size hrv R ∧ Apt hev hrv ∧ Fr (fun _ => False) w w'

end Go.Proofs.Ytcjfmfddkhpfnaa

namespace Go.Proofs.Ytcjfmfddkhpfnaa
set_option linter.unusedVariables false
set_option linter.unusedSimpArgs false

/-! ### a region that draws its order, whose last operation writes what an earlier one reads -/
section
variable {P : Program} {ops : Array Oper} {Q : Exit → Act → World → Prop} {md : Region.Mode} {S : World → Prop} {t : Nat}

/-- Whatever order is picked from here on, and S holds behind every operation but t. -/
def wpAnyT (P : Program) (md : Region.Mode) (ops : Array Oper) (Q : Exit → Act → World → Prop) (S : World → Prop) (t : Nat) : Nat → Array Bool → Act → World → Prop
  | 0, listed, a, w => Region.ready md ops listed = [] ∧ Q .normal a w
  | fuel + 1, listed, a, w =>
    (Region.ready md ops listed = [] → Q .normal a w) ∧
    ∀ i ∈ Region.ready md ops listed, wpOp P ops Q i (fun a' w' => (i ≠ t → S w') ∧ wpAnyT P md ops Q S t fuel (listed.setIfInBounds i true) a' w') a w

theorem wpAny_of_T : ∀ (fuel : Nat) (listed : Array Bool) (a : Act) (w : World), wpAnyT P md ops Q S t fuel listed a w → wpAny P md ops Q fuel listed a w
  | 0, _, _, _, h => h
  | fuel + 1, _, _, _, h => ⟨h.1, fun i hi => wpOp_mono (fun a' w' h' => wpAny_of_T fuel _ a' w' h'.2) (h.2 i hi)⟩

theorem wpAnyT_first {i : Nat} {oi : Oper} {v : Value} (hi : ops[i]? = some oi) (hsel : ∀ (j : Nat) (o : Oper) cs b, ops[j]? = some o → o.op ≠ .select cs b)
    (hQ : ∀ c a w, Q (.panic c) (a.put oi.dst v) w → Q (.panic c) a w) (ht : Region.waitsFor md ops t i = true) :
    ∀ (fuel : Nat) (listed : Array Bool) (a : Act) (w : World),
      (∀ j oj, ops[j]? = some oj → j ≠ i → listed.getD j true = false → (∀ e ∈ oj.after, Region.binds md e = true → e.on ≠ i) → oi.apart ops oj = true) →
      i ∈ Region.ready md ops listed → YieldsIf P ops S oi v a → S w →
      wpAnyT P md ops Q S t fuel (listed.setIfInBounds i true) (a.put oi.dst v) w → wpAnyT P md ops Q S t (fuel + 1) listed a w := by
  have hun : ∀ listed : Array Bool, i ∈ Region.ready md ops listed → listed.getD i false = true → False := fun listed hr h1 => by
    have h0 := (mem_ready.1 hr).1
    rcases Nat.lt_or_ge i listed.size with h' | h'
    · simp [h'] at h0 h1; rw [h0] at h1; cases h1
    · simp [Array.getElem?_eq_none h'] at h1
  have htn : ∀ listed : Array Bool, i ∈ Region.ready md ops listed → t ∉ Region.ready md ops listed := fun listed hr h => by
    obtain ⟨-, ot, hot, hall⟩ := mem_ready.1 h
    obtain ⟨ot', hot', e, he, hb, hon⟩ := Region.waitsFor_spec ht
    rw [hot] at hot'
    cases hot'
    have := hall e he hb
    rw [hon] at this
    exact hun listed hr this
  intro fuel
  induction fuel with
  | zero =>
    intro listed a w _ hr hy hS H
    refine ⟨fun h => (by rw [h] at hr; cases hr), fun j hj => ?_⟩
    by_cases hji : j = i
    · subst hji; exact hy.wpOp hi hS ⟨fun _ => hS, H⟩
    · have := ready_mono hj hji
      rw [H.1] at this
      cases this
  | succ fuel ih =>
    intro listed a w hfree hr hy hS H
    refine ⟨fun h => (by rw [h] at hr; cases hr), fun j hj => ?_⟩
    by_cases hji : j = i
    · subst hji; exact hy.wpOp hi hS ⟨fun _ => hS, H⟩
    · have hjt : j ≠ t := fun e => htn listed hr (e ▸ hj)
      have h1 := H.2 j (ready_mono hj hji)
      obtain ⟨hjun, oj, hoj, hall⟩ := mem_ready.1 hj
      have hnot : ∀ e ∈ oj.after, Region.binds md e = true → e.on ≠ i := fun e he hb heq => by
        have h1 := hall e he hb
        rw [heq] at h1
        exact hun listed hr h1
      have h2 := wpOp_putIf hoj (hfree j oj hoj hji hjun hnot) (fun cs b => hsel i oi cs b hi) (fun cs b => hsel j oj cs b hoj) hQ hy h1
      have hfree' : ∀ k ok, ops[k]? = some ok → k ≠ i → (listed.setIfInBounds j true).getD k true = false →
          (∀ e ∈ ok.after, Region.binds md e = true → e.on ≠ i) → oi.apart ops ok = true := fun k ok hk hki hun hno => by
        refine hfree k ok hk hki ?_ hno
        by_cases hjk : j = k
        · subst hjk; exact hjun
        · rw [getD_set_ne true hjk] at hun; exact hun
      refine wpOp_mono (fun a' w' h3 => ⟨h3.2.1, ih (listed.setIfInBounds j true) a' w' hfree' (ready_mono hr (Ne.symm hji)) h3.1 (h3.2.1 hjt) ?_⟩) h2
      rw [Array.setIfInBounds_comm _ _ hji]
      exact h3.2.2

/-- Take number i first. -/
theorem wpAnyT_take {i : Nat} {oi : Oper} {v : Value} {fuel : Nat} {listed : Array Bool} {a : Act} {w : World} (hi : ops[i]? = some oi)
    (hs : Region.noSelect ops = true) (hf : Region.free md ops listed i = true) (hr : (Region.ready md ops listed).contains i = true) (ht : Region.waitsFor md ops t i = true)
    (hQ : ∀ c a w, Q (.panic c) (a.put oi.dst v) w → Q (.panic c) a w) (hy : YieldsIf P ops S oi v a) (hS : S w)
    (h : wpAnyT P md ops Q S t fuel (listed.setIfInBounds i true) (a.put oi.dst v) w) : wpAnyT P md ops Q S t (fuel + 1) listed a w :=
  wpAnyT_first hi (Region.noSelect_spec hs) hQ ht fuel listed a w (Region.free_spec hi hf) (by simpa using hr) hy hS h

/-- The same, its place named. -/
theorem wpAnyT_takeAt {i : Nat} (d : Tmp) {oi : Oper} {v : Value} {fuel : Nat} {listed : Array Bool} {a : Act} {w : World} (hi : ops[i]? = some oi) (hd : oi.dst = some d)
    (hs : Region.noSelect ops = true) (hf : Region.free md ops listed i = true) (hr : (Region.ready md ops listed).contains i = true) (ht : Region.waitsFor md ops t i = true)
    (hQ : ∀ c a w, Q (.panic c) (a.put (some d) v) w → Q (.panic c) a w) (hy : YieldsIf P ops S oi v a) (hS : S w)
    (h : wpAnyT P md ops Q S t fuel (listed.setIfInBounds i true) (a.put (some d) v) w) : wpAnyT P md ops Q S t (fuel + 1) listed a w :=
  wpAnyT_take hi hs hf hr ht (by rw [hd]; exact hQ) hy hS (by rw [hd]; exact h)

/-- One alone may come up. -/
theorem wpAnyT_one {i : Nat} {o : Oper} {fuel : Nat} {listed : Array Bool} {a : Act} {w : World} (ho : ops[i]? = some o) (hr : Region.ready md ops listed = [i])
    (h : ∀ K' : Act → World → Prop, Shut (∀ a w, (i ≠ t → S w) → wpAnyT P md ops Q S t fuel (listed.setIfInBounds i true) a w → K' a w) → if Region.wanted o (yielded ops a.tmps) = true then Oper.wp P o a w K' Q else K' (a.put o.dst undef) w) : wpAnyT P md ops Q S t (fuel + 1) listed a w := by
  refine ⟨fun h0 => (by rw [hr] at h0; cases h0), fun j hj => ?_⟩
  rw [hr] at hj
  obtain rfl := List.mem_singleton.1 hj
  exact wpOp_step ho (fun K' hK => h K' (fun a w h1 h2 => hK a w ⟨h1, h2⟩))

theorem wpAnyT_done {listed : Array Bool} {a : Act} {w : World} (hr : Region.ready md ops listed = []) (h : Q .normal a w) :
    ∀ fuel, wpAnyT P md ops Q S t fuel listed a w
  | 0 => ⟨hr, h⟩
  | _ + 1 => ⟨fun _ => h, by rw [hr]; simp⟩

/-- The beginning. -/
theorem wp_region_T {id : Nat} {a : Act} {w : World} (hm : P.follows .mixedOrders = true)
    (h : wpAnyT P .any ops Q S t ops.size (Array.replicate ops.size false) a w.drew) : (Code.region id ops true).wp P Q a w :=
  wp_region_any hm (wpAny_of_T _ _ _ _ h)
end

end Go.Proofs.Ytcjfmfddkhpfnaa
