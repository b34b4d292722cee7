import Derived.Test.YtmdlebolmhnhaaaH4
namespace Go.Proofs.Ytmdlebolmhnhaaa
open Go.RowKit (wrap32 wrap64)
open Go.Maps (Keyed)
set_option linter.unusedVariables false
set_option linter.unusedSimpArgs false

/-- An entry as the youngest frame goes. -/
def popE (d : Nat) (r : Ent) : Ent := if r.m.depth = (d : Int) then { r with m := { r.m with depth := -1, there := r.m.there && r.m.heap } } else r

theorem ms_popE (d : Nat) (E : List Ent) : ms (E.map (popE d)) = popL d (ms E) := by
  unfold ms popL
  rw [List.map_map, List.map_map]
  apply List.map_congr_left
  intro r _
  simp only [Function.comp, popE]
  split <;> rfl

/-- The first k entries are done. -/
def Upto (d k : Nat) (E Ek : List Ent) : Prop := Ek.length = E.length ∧ (∀ i, i < k → Ek[i]? = (E[i]?).map (popE d)) ∧ ∀ i, k ≤ i → Ek[i]? = E[i]?

theorem Upto.zero (d : Nat) (E : List Ent) : Upto d 0 E E := ⟨rfl, fun i h => absurd h (by omega), fun i _ => rfl⟩
theorem Upto.skip {d k : Nat} {E Ek : List Ent} (h : Upto d k E Ek) {r : Ent} (hr : Ek[k]? = some r) (hd : r.m.depth ≠ (d : Int)) : Upto d (k + 1) E Ek := by
  refine ⟨h.1, fun i hi => ?_, fun i hi => h.2.2 i (by omega)⟩
  rcases Nat.lt_or_ge i k with h1 | h1
  · exact h.2.1 i h1
  · have : i = k := by omega
    subst this
    have e := h.2.2 i (Nat.le_refl _)
    rw [hr, ← e, hr]
    simp only [Option.map_some, popE, if_neg hd]
theorem Upto.step {d k : Nat} {E Ek : List Ent} (h : Upto d k E Ek) {r : Ent} (hr : Ek[k]? = some r) : Upto d (k + 1) E (Ek.set k (popE d r)) := by
  have hl := (List.getElem?_eq_some_iff.1 hr).1
  refine ⟨by rw [List.length_set]; exact h.1, fun i hi => ?_, fun i hi => ?_⟩
  · rcases Nat.lt_or_ge i k with h1 | h1
    · rw [List.getElem?_set_ne (by omega)]; exact h.2.1 i h1
    · have : i = k := by omega
      subst this
      rw [List.getElem?_set_self hl, ← h.2.2 i (Nat.le_refl _), hr]
      rfl
  · rw [List.getElem?_set_ne (by omega)]; exact h.2.2 i (by omega)
theorem Upto.all {d : Nat} {E Ek : List Ent} (h : Upto d E.length E Ek) : Ek = E.map (popE d) := by
  apply List.ext_getElem?
  intro i
  rw [List.getElem?_map]
  rcases Nat.lt_or_ge i E.length with h1 | h1
  · exact h.2.1 i h1
  · rw [h.2.2 i h1, List.getElem?_eq_none h1]; rfl

set_option maxRecDepth 100000 in
set_option maxHeartbeats 2000000 in
/-- pop: the youngest frame goes. -/
theorem popl_any (w0 : World) (b : Nat) (g : Gh) (a : Abs) (lb d : Nat) (av : Value) (E : List Ent) (w : World) (h : Both w0 w b g a lb d av E) (hq : Sq a d (ms E)) {N : Nat} (hf : Fine N a) (hN : N ≤ 10000000000000) :
    Calls Try.prog 34 #[ptr lb] w fun e w' => e = .returned (.bool true) ∧ ∃ g' d' E', Both w0 w' b g' (popX a).1 lb d' av E' ∧ Sq (popX a).1 d' (ms E') := by
  have hE : E.length ≤ N := by have := hq.made; have := hf.made; simp [ms] at *; omega
  have hd : d ≤ N := by have := hq.deep; have := hf.frs; omega
  obtain ⟨c0, c1, c2⟩ := h.led.heads
  have HB : Hd _ := h
  have HQ : Hd _ := hq
  have HF : Hd _ := hf
  clear h hq hf
  go_enter Try.func34, Try.ntmps34
  go_wp2_with fail
  refine (show Calls Try.prog 18 #[ptr b] w _ from pop_x b g a w HB.out.mem HF.out hN).mono ?_
  rintro e w1 ⟨g1, rfl, hM1, hF1, hE1⟩
  have HB1 : Hd _ := HB.out.call hM1 hF1 hE1
  clear hM1 hF1 hE1 c0 c1 c2 HB
  obtain ⟨c0, c1, c2⟩ := HB1.out.led.heads
  cases d with
  | zero =>
    have hp := HQ.out.pop0
    have hp2 : (popX a).2 = 30 := by rw [hp]
    rw [hp2]
    go_wp2_with fail
    go_ret
    refine ⟨rfl, g1, 0, E, HB1.out, ?_⟩
    rw [hp]
    exact HQ.out
  | succ d =>
    obtain ⟨hp2, hsq⟩ := HQ.out.pop
    have HSQ : Hd _ := hsq
    rw [hp2]
    clear hp2 hsq
    obtain ⟨A, hA⟩ : ∃ A, (popX a).1 = A := ⟨_, rfl⟩
    rw [hA] at HB1 HSQ
    have HA : Hd _ := hA
    clear hA
    obtain ⟨ad, cap, rfl, had⟩ := row_shape HB1.out.led.row
    have hd0 : (((d + 1 : Nat) : Int) == 0) = false := by simp; omega
    have HDD : Hd (∀ w, Both w0 w b g1 A lb (d + 1) (.slice ad E.length cap) (E.map (popE (d + 1))) → Both w0 (w.setCell ⟨lb, 1, none⟩ (vI d)) b g1 A lb d (.slice ad E.length cap) (E.map (popE (d + 1)))) := fun w h => h.depth d
    have HSS : Hd (Sq A d (ms (E.map (popE (d + 1))))) := by unfold Hd; rw [ms_popE]; exact HSQ.out
    clear HSQ HQ
    have hdl : (d : Int) = ((d + 1 : Nat) : Int) - 1 := by omega
    have HDL : Hd _ := hdl
    clear hdl
    generalize hD : d + 1 = D at *
    have HDe : Hd _ := hD
    clear hD
    go_wp2_with fail
    clear c0 c1 c2
    go_loopw [4] (fun v wr => ∃ (k : Nat) (Ek : List Ent), v = .int .i64 k ∧ k ≤ E.length ∧ Hd (Upto D k E Ek) ∧ Hd (Both w0 wr b g1 A lb D (.slice ad E.length cap) Ek)) (fun v _ => match v with | .int _ q => E.length - q.toNat | _ => 0)
    case atStart => exact ⟨0, E, rfl, Nat.zero_le _, Upto.zero _ _, HB1.out⟩
    case round =>
      obtain ⟨k, Ek, rfl, hk, HU, HBk⟩ := hrel
      clear HB1
      obtain ⟨c0, c1, c2⟩ := HBk.out.led.heads
      by_cases hlt : k < E.length
      · obtain ⟨ab, rfl⟩ := had (by omega)
        have hlk : Ek.length = E.length := HU.out.1
        obtain ⟨r, hr⟩ : ∃ r, Ek[k]? = some r := ⟨_, List.getElem?_eq_getElem (by omega)⟩
        have hav : Value.slice (some ⟨ab, 0, none⟩) E.length cap = .slice (some ⟨ab, 0, none⟩) Ek.length cap := by rw [hlk]
        obtain ⟨q0, q1, q2, q3, q4⟩ := HBk.out.led.cells hav hr
        have HAV : Hd _ := hav
        have HR : Hd _ := hr
        have hk0 : (0 : Int) ≤ k := by omega
        have hk1 : (k : Int) < E.length := by omega
        clear had hav hr hlk
        by_cases hdp : r.m.depth = (D : Int)
        · have b1 : (r.m.depth == (D : Int)) = true := by simpa using hdp
          obtain ⟨cur, hcur⟩ : ∃ cur, wr.heap[ab]? = some (.cells cur 76) := by
            have := HBk.out.led.row
            rw [HAV.out] at this
            exact row_block this
          have z2 : wr.frozen? ⟨ab, k * 5 + 2, none⟩ = false := frozen_of hcur _
          have HB2 : Hd (Both w0 (wr.setCell ⟨ab, k * 5 + 2, none⟩ (.int .i64 (-1))).drew b g1 A lb D (.slice (some ⟨ab, 0, none⟩) E.length cap) (Ek.set k { r with m := { r.m with depth := -1 } })) :=
            (HBk.out.entry HAV.out HR.out (r' := { r with m := { r.m with depth := -1 } }) rfl rfl rfl (j := 2) (by omega) rfl).keep (Fr.drew (Fr.refl _ _))
          clear hcur
          go_wp2_with fail
          refine wp_region_still_tail 12 mixed (by kernel_rfl) ?_
          simp only [List.take_succ_cons, List.take_zero, List.drop_succ_cons, List.drop_zero]
          repeat still_step
          refine wpStill_nil ?_
          go_wp2_with fail
          generalize (wr.setCell ⟨ab, k * 5 + 2, none⟩ (.int .i64 (-1))).drew = w2 at *
          have HR2 : Hd ((Ek.set k { r with m := { r.m with depth := -1 } })[k]? = some { r with m := { r.m with depth := -1 } }) := List.getElem?_set_self (List.getElem?_eq_some_iff.1 HR.out).1
          have HAV2 : Hd (Value.slice (some ⟨ab, 0, none⟩) E.length cap = .slice (some ⟨ab, 0, none⟩) (Ek.set k { r with m := { r.m with depth := -1 } }).length cap) := by unfold Hd; rw [List.length_set]; exact HAV.out
          clear c0 c1 c2 q0 q1 q2 q3 q4 z2
          obtain ⟨c0, c1, c2⟩ := HB2.out.led.heads
          obtain ⟨q0, q1, q2, q3, q4⟩ := HB2.out.led.cells HAV2.out HR2.out
          obtain ⟨cur, hcur⟩ : ∃ cur, w2.heap[ab]? = some (.cells cur 76) := by
            have := HB2.out.led.row
            rw [HAV2.out] at this
            exact row_block this
          have z4 : w2.frozen? ⟨ab, k * 5 + 4, none⟩ = false := frozen_of hcur _
          have HB3 : Hd (Both w0 (w2.drew.setCell ⟨ab, k * 5 + 4, none⟩ (.bool (r.m.there && r.m.heap))) b g1 A lb D (.slice (some ⟨ab, 0, none⟩) E.length cap) (Ek.set k (popE D r))) := by
            have := (HB2.out.keep (Fr.drew (Fr.refl _ _))).entry HAV2.out HR2.out (r' := popE D r) (by simp [popE, hdp]) (by simp [popE, hdp]) (by simp [popE, hdp]) (j := 4) (u := .bool (r.m.there && r.m.heap)) (by omega) (by simp [popE, hdp, entC])
            rw [List.set_set] at this
            exact this
          have HU3 : Hd _ := HU.out.step HR.out
          simp only at q0 q1 q2 q3 q4
          clear hcur q0 q1 q2 HBk HB2
          cases ht : r.m.there
          · rw [ht] at q4 HB3
            go_region
            all_goals
              go_wp2_with fail
              refine ⟨⟨k + 1, Ek.set k (popE D r), by simp, by omega, HU3.out, HB3.out⟩, by simp; omega⟩
          · rw [ht] at q4 HB3
            go_region
            all_goals
              go_wp2_with fail
              refine ⟨⟨k + 1, Ek.set k (popE D r), by simp, by omega, HU3.out, HB3.out⟩, by simp; omega⟩
        · have b1 : (r.m.depth == (D : Int)) = false := by simpa using hdp
          go_wp2_with fail
          refine wp_region_still_tail 12 mixed (by kernel_rfl) ?_
          simp only [List.take_succ_cons, List.take_zero, List.drop_succ_cons, List.drop_zero]
          repeat still_step
          refine wpStill_nil ?_
          go_wp2_with fail
          refine ⟨⟨k + 1, Ek, by simp, by omega, HU.out.skip HR.out hdp, HBk.out.keep (Fr.drew (Fr.refl _ _))⟩, by simp; omega⟩
      · have hke : k = E.length := by omega
        subst hke
        have z1 : wr.frozen? ⟨lb, 1, none⟩ = false := frozen_of HBk.out.led.blk 1
        have hD1 : 1 ≤ D := by have : d + 1 = D := HDe.out; omega
        go_wp2_with fail
        go_ret
        have hall := HU.out.all
        subst hall
        rw [show (popX a).1 = A from HA.out]
        refine ⟨rfl, g1, d, E.map (popE D), ?_, HSS.out⟩
        have := HDD.out _ HBk.out
        rw [show (d : Int) = (D : Int) - 1 from HDL.out] at this
        exact this

end Go.Proofs.Ytmdlebolmhnhaaa
