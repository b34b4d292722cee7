import Derived.Test.YtingenonbkencaaDoorQE6J
set_option linter.unusedVariables false
set_option linter.unusedSimpArgs false
namespace Go.Proofs.YtingenonbkencaaDoor
open Go.RowKit (wrap32 wrap64)
set_option maxRecDepth 100000
set_option maxHeartbeats 2000000
theorem L_next {b : Nat} (o size : Nat) (s : WS) (u : Unit) : nextX (leaving b) o size (s, u) = .ok ({ s with at' := adv s.at' size }, u) := by
  unfold nextX
  simp only [leaving, set_get]
theorem L_SB {b k : Nat} (h : (leaving b).SB k) : k = b := h.elim id (fun h => h.elim)
def oneL (v : Int) (x : WS × Unit) : X (WS × Unit) := if varOk x.1.fV v then .ok ({ x.1 with at' := adv x.1.at' 1 }, x.2) else .error (13, x.1.at')
def varsL : List Int → WS × Unit → X (WS × Unit)
  | [], x => .ok x
  | v :: r, x => thenX (oneL v x) (varsL r)
def listL (n : Nat) (l : List Int) (x : WS × Unit) : X (WS × Unit) :=
  if l.length = n then varsL l ({ x.1 with count := l.length, at' := adv x.1.at' 1 }, x.2) else .error (15, x.1.at')
theorem variable_L {b : Nat} (pb po : Nat) (x : WS × Unit) (v : Int) (w : World) (h : On (leaving b) w x) (hpb : pb ≠ b) (hu : w.cell? ⟨pb, po, none⟩ = some (vI v)) :
    Calls Tryd.prog 80 #[.pointer (some ⟨b, 0, none⟩), .pointer (some ⟨pb, po, none⟩)] w (Ends (leaving b) w (oneL v x)) := by
  obtain ⟨s, u⟩ := x
  obtain ⟨hl, hn, hI⟩ := h
  simp only at hl hn hI
  have h0 : w.cell? ⟨b, 0, none⟩ = some (vF 38) := by rw [hl.facts.1, hn]; rfl
  have hlt : pb < w.heap.size := cell_lt hu
  have hfr : Fr (fun k => k = b) w (w.setCell ⟨b, 1, none⟩ (vI (adv s.at' 1))) := Fr.setCell (Fr.refl (fun k => k = b) w) _ _ (Or.inl rfl)
  have hon : On (leaving b) (w.setCell ⟨b, 1, none⟩ (vI (adv s.at' 1))) ({ s with at' := adv s.at' 1 }, u) := ⟨hl.setCell 1 _ (cells_at _ _), hn, (leaving b).stable () s.at' _ _ hI hfr⟩
  have hf : Fr (leaving b).SB w (w.setCell ⟨b, 1, none⟩ (vI (adv s.at' 1))) := hfr.mono (fun k _ hk => Or.inl hk)
  have hc : (w.setCell ⟨b, 1, none⟩ (vI (adv s.at' 1))).cell? ⟨pb, po, none⟩ = some (vI v) := (hfr.cell hlt hpb).trans hu
  go_enter Tryd.func80, Tryd.ntmps80
  go_wp2_with fail
  refine (next_leaves b ⟨pb, po, none⟩ s.at' 1 w h0 hl.facts.2.1 (hl.frozen 1)).mono ?_
  rintro e w1 ⟨rfl, rfl⟩
  clear hl hn hI h0 hfr hu
  generalize w.setCell ⟨b, 1, none⟩ (vI (adv s.at' 1)) = w1 at *
  have hcV : w1.cell? ⟨b, 151, none⟩ = some (vI s.fV) := hon.1.facts.2.2.2.2.2.2.2.1
  by_cases hm : varOk s.fV v = true
  · have hm' : decide (0 ≤ v ∧ v ≤ IntKind.i64.wrap (s.fV - 1)) = true := by exact hm
    have HM : Hd (varOk s.fV v = true) := hm'
    clear hm
    go_wp2_with fail
    refine wp_region_still_tail 11 mixed (by kernel_rfl) ?_
    simp only [List.take_succ_cons, List.take_zero, List.drop_succ_cons, List.drop_zero]
    repeat still_step
    still_call (within_any _ _ _ _)
    repeat still_step
    refine wpStill_nil ?_
    go_wp2_with fail
    refine (must_true 13 s.at' _).mono ?_
    rintro e w' ⟨rfl, rfl⟩
    go_wp2_with fail
    go_end0
    refine ⟨hf.drew, ?_⟩
    unfold oneL
    rw [if_pos HM.out]
    exact ⟨rfl, hon.drew⟩
  · have hm' : decide (0 ≤ v ∧ v ≤ IntKind.i64.wrap (s.fV - 1)) = false := by simpa [varOk] using hm
    have HM : Hd (varOk s.fV v = false) := hm'
    clear hm
    go_wp2_with fail
    refine wp_region_still_tail 11 mixed (by kernel_rfl) ?_
    simp only [List.take_succ_cons, List.take_zero, List.drop_succ_cons, List.drop_zero]
    repeat still_step
    still_call (within_any _ _ _ _)
    repeat still_step
    refine wpStill_nil ?_
    go_wp2_with fail
    refine (must_false 13 s.at' _).mono ?_
    rintro e w' ⟨rfl, rfl⟩
    go_wp2_with fail
    refine ⟨rfl, hf.drew, ?_⟩
    unfold oneL
    rw [if_neg (by rw [HM.out]; simp)]
def IL (b : Nat) (w : World) (v : Value) (l : List Int) : Prop :=
  ∃ a c, v = .slice a l.length c ∧ (l ≠ [] → ∃ k o, a = some ⟨k, o, none⟩ ∧ k < w.heap.size ∧ k ≠ b ∧ ∀ j (h : j < l.length), w.cell? ⟨k, o + j, none⟩ = some (vI l[j]))
theorem IL.fr {S : Nat → Prop} {b : Nat} {w w' : World} {v : Value} {l : List Int} (h : IL b w v l) (f : Fr S w w') (hS : ∀ k, S k → k = b) : IL b w' v l := by
  obtain ⟨a, c, e, h⟩ := h
  refine ⟨a, c, e, fun hne => ?_⟩
  obtain ⟨k, o, e, hk, hb, hc⟩ := h hne
  exact ⟨k, o, e, Nat.lt_of_lt_of_le hk f.size, hb, fun j hj => (f.cell hk (fun h => hb (hS k h))).trans (hc j hj)⟩
theorem list_L {b : Nat} (o n : Nat) (ho : o = 159 ∨ o = 160) (x : WS × Unit) (w : World) (h : On (leaving b) w x) (l : List Int) (hl : IL b w (x.1.getL o) l) (hll : l.length ≤ 1000000000000000) (hn : n ≤ 255) :
    Calls Tryd.prog 100 #[.pointer (some ⟨b, 0, none⟩), .pointer (some ⟨b, o, none⟩), .int .i64 n] w (Ends (leaving b) w (listL n l x)) := by
  obtain ⟨a, c, hsl, hin⟩ := hl
  have HIN : Hd _ := hin
  clear hin
  have hcl : w.cell? ⟨b, o, none⟩ = some (.slice a l.length c) := by rw [h.1.cell, cells_getL _ _ ho, hsl]
  have hc161 : w.cell? ⟨b, 161, none⟩ = some (vI x.1.count) := h.1.facts.2.2.2.2.2.2.2.2.2.2.2.2.2.2.2.2.2
  have hz161 := h.1.frozen 161
  have hf0 : Fr (· = b) w (w.setCell ⟨b, 161, none⟩ (vI l.length)) := Fr.setCell (Fr.refl (fun k => k = b) w) _ _ (Or.inl rfl)
  have hl0 : Lies (w.setCell ⟨b, 161, none⟩ (vI l.length)) b { x.1 with count := l.length } := h.1.setCell 161 _ (cells_set _ 161 _ (by simp [places]))
  have hon0 : On (leaving b) (w.setCell ⟨b, 161, none⟩ (vI l.length)) ({ x.1 with count := l.length }, x.2) := h.fr hf0 hl0 rfl rfl
  have hb := h.1.lt
  go_enter Tryd.func100, Tryd.ntmps100
  go_wp2_with fail
  refine (leaving_own b 161 (by simp [places]) ({ x.1 with count := l.length }, x.2) 1 _ hon0 (by omega) (by omega)).mono ?_
  rintro e w1 ⟨hf1, hres⟩
  have hfa : Fr (leaving b).SB w w1 := (hf0.mono (fun k _ hk => Or.inl hk)).trans hf1
  rw [L_next] at hres
  obtain ⟨rfl, hon1⟩ := hres
  obtain ⟨y, hy⟩ : ∃ y : WS × Unit, y = ({ x.1 with count := l.length, at' := adv x.1.at' 1 }, x.2) := ⟨_, rfl⟩
  have hon1 : On (leaving b) w1 y := by rw [hy]; exact hon1
  have hcc : w1.cell? ⟨b, 161, none⟩ = some (vI l.length) := by rw [hon1.1.facts.2.2.2.2.2.2.2.2.2.2.2.2.2.2.2.2.2, hy]
  have hyL : y.1.getL o = .slice a l.length c := by
    rw [hy]
    rcases ho with rfl | rfl <;> exact hsl
  have hcl1 : w1.cell? ⟨b, o, none⟩ = some (.slice a l.length c) := by rw [hon1.1.cell, cells_getL _ _ ho, hyL]
  have HL : Hd (listL n l x = if l.length = n then varsL l y else .error (15, x.1.at')) := by unfold Hd listL; rw [hy]
  clear hy hf1 hf0 hl0 hon0 hc161 hz161
  by_cases hm : l.length = n
  rotate_left
  · have hm' : (((l.length : Nat) : Int) == (n : Int)) = false := by simp; omega
    have HM : Hd (¬ l.length = n) := hm
    clear hm
    go_wp2_with fail
    refine (must_false 15 x.1.at' _).mono ?_
    rintro e w' ⟨rfl, rfl⟩
    go_wp2_with fail
    refine ⟨rfl, hfa, ?_⟩
    rw [HL.out, if_neg HM.out]
  subst hm
  have HLV : Hd (listL l.length l x = varsL l y) := by unfold Hd; rw [HL.out, if_pos rfl]
  clear HL
  go_wp2_with fail
  refine (must_true 15 x.1.at' _).mono ?_
  rintro e w' ⟨rfl, rfl⟩
  go_wp2_with fail
  go_loopw [42] (fun i wr => ∃ (k : Nat) (z : WS × Unit), k ≤ l.length ∧ i = .int .i64 k ∧ On (leaving b) wr z ∧ Hd (z.1.getL o = .slice a l.length c) ∧ Fr (leaving b).SB w wr ∧ Hd (varsL l y = varsL (l.drop k) z)) (fun i _ => match i with | .int _ q => l.length - q.toNat | _ => 0)
  case atStart => exact ⟨0, y, Nat.zero_le _, rfl, hon1, hyL, hfa, rfl⟩
  case round =>
    obtain ⟨k, z, hk, rfl, honz, hzL, hfz, hvx⟩ := hrel
    have hclz : wr.cell? ⟨b, o, none⟩ = some (.slice a l.length c) := by rw [honz.1.cell, cells_getL _ _ ho, hzL.out]
    by_cases hlt : k < l.length
    · obtain ⟨pk, po, rfl, hpk, hpb, hcs⟩ := HIN.out (by intro e; simp [e] at hlt)
      have hce : wr.cell? ⟨pk, po + k, none⟩ = some (vI l[k]) := (hfz.cell hpk (fun h => hpb (L_SB h))).trans (hcs k hlt)
      have hdrop : Hd (l.drop k = l[k] :: l.drop (k + 1)) := List.drop_eq_getElem_cons hlt
      generalize l[k] = lk at hce hdrop
      have hcdz := variable_L pk (po + k) z lk wr honz hpb hce
      clear hcs
      go_wp2_with fail
      refine hcdz.mono ?_
      rintro e w2 ⟨hf2, hres⟩
      cases hox : oneL lk z with
      | error er =>
        rw [hox] at hres
        have hres : e = .panicked (viol er.1 er.2) := hres
        subst hres
        go_wp2_with fail
        refine ⟨rfl, hfz.trans hf2, ?_⟩
        rw [HLV.out, hvx.out, hdrop.out]
        simp only [varsL, hox, thenX]
      | ok z2 =>
        rw [hox] at hres
        obtain ⟨rfl, hon2⟩ := hres
        have hz2 : Hd (z2.1.getL o = .slice (some ⟨pk, po, none⟩) l.length c) := by
          unfold oneL at hox
          split at hox
          · cases hox; exact hzL.out
          · cases hox
        have hvx2 : Hd (varsL l y = varsL (l.drop (k + 1)) z2) := by
          unfold Hd; rw [hvx.out, hdrop.out]; simp only [varsL, hox, thenX]
        clear hcdz hce hox hvx hzL hclz
        go_wp2_with fail
        exact ⟨⟨k + 1, z2, by omega, by simp, hon2, hz2, hfz.trans hf2, hvx2⟩, by simp; omega⟩
    · have hkl : k = l.length := by omega
      subst hkl
      have hvl : Hd (varsL l y = .ok z) := by unfold Hd; rw [hvx.out, List.drop_length]; rfl
      clear hvx
      go_wp2_with fail
      go_end0
      refine ⟨hfz, ?_⟩
      rw [HLV.out, hvl.out]
      exact ⟨rfl, honz⟩
end Go.Proofs.YtingenonbkencaaDoor
