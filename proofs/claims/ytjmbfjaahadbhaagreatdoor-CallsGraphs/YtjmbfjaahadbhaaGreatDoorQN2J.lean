import Derived.Test.YtjmbfjaahadbhaaGreatDoorQE2J
import Derived.Test.YtjmbfjaahadbhaaGreatDoorQN1
import Derived.Test.YtjmbfjaahadbhaaGreatDoorQA3J
import Derived.Laws.BytesString
set_option linter.unusedVariables false
set_option linter.unusedSimpArgs false
namespace Go.Proofs.YtjmbfjaahadbhaaGreatDoor
open Go.RowKit (wrap32 wrap64)

theorem L_next {b : Nat} (o size : Nat) (s : WS) (u : Unit) : nextX (leaving b) o size (s, u) = .ok ({ s with at' := adv s.at' size }, u) := by
  unfold nextX
  simp only [leaving, set_get]

theorem L_SB {b k : Nat} (h : (leaving b).SB k) : k = b := h.elim id (fun h => h.elim)

/-- A variable's number that stays where it stands. -/
def oneL (v : Int) (x : WS × Unit) : X (WS × Unit) := if varOk x.1.fV v then .ok ({ x.1 with at' := adv x.1.at' 1 }, x.2) else .error (13, x.1.at')

def varsL : List Int → WS × Unit → X (WS × Unit)
  | [], x => .ok x
  | v :: r, x => thenX (oneL v x) (varsL r)

/-- A list that stays where it lies. -/
def listL (n : Nat) (l : List Int) (x : WS × Unit) : X (WS × Unit) :=
  if l.length = n then varsL l ({ x.1 with count := l.length, at' := adv x.1.at' 1 }, x.2) else .error (15, x.1.at')

set_option maxRecDepth 100000 in
set_option maxHeartbeats 1000000 in
theorem variable_L {b : Nat} (pb po : Nat) (x : WS × Unit) (v : Int) (w : World) (h : On (leaving b) w x) (hpb : pb ≠ b) (hu : w.cell? ⟨pb, po, none⟩ = some (vI v)) :
    Calls Tryz.prog 78 #[.pointer (some ⟨b, 0, none⟩), .pointer (some ⟨pb, po, none⟩)] w (Ends (leaving b) w (oneL v x)) := by
  obtain ⟨s, u⟩ := x
  obtain ⟨hl, hn, hI⟩ := h
  simp only at hl hn hI
  have h0 : w.cell? ⟨b, 0, none⟩ = some (vF 39) := by rw [hl.facts.1, hn]; rfl
  have hlt : pb < w.heap.size := cell_lt hu
  have hfr : Fr (fun k => k = b) w (w.setCell ⟨b, 1, none⟩ (vI (adv s.at' 1))) := Fr.setCell (Fr.refl (fun k => k = b) w) _ _ (Or.inl rfl)
  have hon : On (leaving b) (w.setCell ⟨b, 1, none⟩ (vI (adv s.at' 1))) ({ s with at' := adv s.at' 1 }, u) := ⟨hl.setCell 1 _ (cells_at _ _), hn, (leaving b).stable () s.at' _ _ hI hfr⟩
  have hf : Fr (leaving b).SB w (w.setCell ⟨b, 1, none⟩ (vI (adv s.at' 1))) := hfr.mono (fun k _ hk => Or.inl hk)
  have hc : (w.setCell ⟨b, 1, none⟩ (vI (adv s.at' 1))).cell? ⟨pb, po, none⟩ = some (vI v) := (hfr.cell hlt hpb).trans hu
  go_enter Tryz.func78, Tryz.ntmps78
  go_wp2_with fail
  refine (next_leaves b ⟨pb, po, none⟩ s.at' 1 w h0 hl.facts.2.1 (hl.frozen 1)).mono ?_
  rintro e w1 ⟨rfl, rfl⟩
  clear hl hn hI h0 hfr hu
  generalize w.setCell ⟨b, 1, none⟩ (vI (adv s.at' 1)) = w1 at *
  have hcV : w1.cell? ⟨b, 151, none⟩ = some (vI s.fV) := hon.1.facts.2.2.2.2.2.2.2.1
  by_cases hm : varOk s.fV v = true
  · have hm' : decide (0 ≤ v ∧ v ≤ IntKind.i64.wrap (s.fV - 1)) = true := by exact hm
    have HM : Hd (varOk s.fV v = true) := hm'
    clear hm
    go_wp2_with fail
    refine wp_region_still_tail 11 mixed (by kernel_rfl) ?_
    simp only [List.take_succ_cons, List.take_zero, List.drop_succ_cons, List.drop_zero]
    repeat still_step
    still_call (within_any _ _ _ _)
    repeat still_step
    refine wpStill_nil ?_
    go_wp2_with fail
    refine (must_true 13 s.at' _).mono ?_
    rintro e w' ⟨rfl, rfl⟩
    go_wp2_with fail
    go_end0
    refine ⟨hf.drew, ?_⟩
    unfold oneL
    rw [if_pos HM.out]
    exact ⟨rfl, hon.drew⟩
  · have hm' : decide (0 ≤ v ∧ v ≤ IntKind.i64.wrap (s.fV - 1)) = false := by simpa [varOk] using hm
    have HM : Hd (varOk s.fV v = false) := hm'
    clear hm
    go_wp2_with fail
    refine wp_region_still_tail 11 mixed (by kernel_rfl) ?_
    simp only [List.take_succ_cons, List.take_zero, List.drop_succ_cons, List.drop_zero]
    repeat still_step
    still_call (within_any _ _ _ _)
    repeat still_step
    refine wpStill_nil ?_
    go_wp2_with fail
    refine (must_false 13 s.at' _).mono ?_
    rintro e w' ⟨rfl, rfl⟩
    go_wp2_with fail
    refine ⟨rfl, hf.drew, ?_⟩
    unfold oneL
    rw [if_neg (by rw [HM.out]; simp)]

/-- Ints that lie in a row, none of them in block b. -/
def IL (b : Nat) (w : World) (v : Value) (l : List Int) : Prop :=
  ∃ a c, v = .slice a l.length c ∧ (l ≠ [] → ∃ k o, a = some ⟨k, o, none⟩ ∧ k < w.heap.size ∧ k ≠ b ∧ ∀ j (h : j < l.length), w.cell? ⟨k, o + j, none⟩ = some (vI l[j]))

theorem IL.fr {S : Nat → Prop} {b : Nat} {w w' : World} {v : Value} {l : List Int} (h : IL b w v l) (f : Fr S w w') (hS : ∀ k, S k → k = b) : IL b w' v l := by
  obtain ⟨a, c, e, h⟩ := h
  refine ⟨a, c, e, fun hne => ?_⟩
  obtain ⟨k, o, e, hk, hb, hc⟩ := h hne
  exact ⟨k, o, e, Nat.lt_of_lt_of_le hk f.size, hb, fun j hj => (f.cell hk (fun h => hb (hS k h))).trans (hc j hj)⟩

set_option maxRecDepth 100000 in
set_option maxHeartbeats 2000000 in
theorem list_L {b : Nat} (o n : Nat) (ho : o = 159 ∨ o = 160) (x : WS × Unit) (w : World) (h : On (leaving b) w x) (l : List Int) (hl : IL b w (x.1.getL o) l) (hll : l.length ≤ 1000000000000000) (hn : n ≤ 255) :
    Calls Tryz.prog 99 #[.pointer (some ⟨b, 0, none⟩), .pointer (some ⟨b, o, none⟩), .int .i64 n] w (Ends (leaving b) w (listL n l x)) := by
  obtain ⟨a, c, hsl, hin⟩ := hl
  have HIN : Hd _ := hin
  clear hin
  have hcl : w.cell? ⟨b, o, none⟩ = some (.slice a l.length c) := by rw [h.1.cell, cells_getL _ _ ho, hsl]
  have hc161 : w.cell? ⟨b, 161, none⟩ = some (vI x.1.count) := h.1.facts.2.2.2.2.2.2.2.2.2.2.2.2.2.2.2.2.2
  have hz161 := h.1.frozen 161
  have hf0 : Fr (· = b) w (w.setCell ⟨b, 161, none⟩ (vI l.length)) := Fr.setCell (Fr.refl (fun k => k = b) w) _ _ (Or.inl rfl)
  have hl0 : Lies (w.setCell ⟨b, 161, none⟩ (vI l.length)) b { x.1 with count := l.length } := h.1.setCell 161 _ (cells_set _ 161 _ (by simp [places]))
  have hon0 : On (leaving b) (w.setCell ⟨b, 161, none⟩ (vI l.length)) ({ x.1 with count := l.length }, x.2) := h.fr hf0 hl0 rfl rfl
  have hb := h.1.lt
  go_enter Tryz.func99, Tryz.ntmps99
  go_wp2_with fail
  refine (leaving_own b 161 (by simp [places]) ({ x.1 with count := l.length }, x.2) 1 _ hon0 (by omega) (by omega)).mono ?_
  rintro e w1 ⟨hf1, hres⟩
  have hfa : Fr (leaving b).SB w w1 := (hf0.mono (fun k _ hk => Or.inl hk)).trans hf1
  rw [L_next] at hres
  obtain ⟨rfl, hon1⟩ := hres
  obtain ⟨y, hy⟩ : ∃ y : WS × Unit, y = ({ x.1 with count := l.length, at' := adv x.1.at' 1 }, x.2) := ⟨_, rfl⟩
  have hon1 : On (leaving b) w1 y := by rw [hy]; exact hon1
  have hcc : w1.cell? ⟨b, 161, none⟩ = some (vI l.length) := by rw [hon1.1.facts.2.2.2.2.2.2.2.2.2.2.2.2.2.2.2.2.2, hy]
  have hyL : y.1.getL o = .slice a l.length c := by
    rw [hy]
    rcases ho with rfl | rfl <;> exact hsl
  have hcl1 : w1.cell? ⟨b, o, none⟩ = some (.slice a l.length c) := by rw [hon1.1.cell, cells_getL _ _ ho, hyL]
  have HL : Hd (listL n l x = if l.length = n then varsL l y else .error (15, x.1.at')) := by unfold Hd listL; rw [hy]
  clear hy hf1 hf0 hl0 hon0 hc161 hz161
  by_cases hm : l.length = n
  rotate_left
  · have hm' : (((l.length : Nat) : Int) == (n : Int)) = false := by simp; omega
    have HM : Hd (¬ l.length = n) := hm
    clear hm
    go_wp2_with fail
    refine (must_false 15 x.1.at' _).mono ?_
    rintro e w' ⟨rfl, rfl⟩
    go_wp2_with fail
    refine ⟨rfl, hfa, ?_⟩
    rw [HL.out, if_neg HM.out]
  subst hm
  have HLV : Hd (listL l.length l x = varsL l y) := by unfold Hd; rw [HL.out, if_pos rfl]
  clear HL
  go_wp2_with fail
  refine (must_true 15 x.1.at' _).mono ?_
  rintro e w' ⟨rfl, rfl⟩
  go_wp2_with fail
  go_loopw [42] (fun i wr => ∃ (k : Nat) (z : WS × Unit), k ≤ l.length ∧ i = .int .i64 k ∧ On (leaving b) wr z ∧ Hd (z.1.getL o = .slice a l.length c) ∧ Fr (leaving b).SB w wr ∧ Hd (varsL l y = varsL (l.drop k) z)) (fun i _ => match i with | .int _ q => l.length - q.toNat | _ => 0)
  case atStart => exact ⟨0, y, Nat.zero_le _, rfl, hon1, hyL, hfa, rfl⟩
  case round =>
    obtain ⟨k, z, hk, rfl, honz, hzL, hfz, hvx⟩ := hrel
    have hclz : wr.cell? ⟨b, o, none⟩ = some (.slice a l.length c) := by rw [honz.1.cell, cells_getL _ _ ho, hzL.out]
    by_cases hlt : k < l.length
    · obtain ⟨pk, po, rfl, hpk, hpb, hcs⟩ := HIN.out (by intro e; simp [e] at hlt)
      have hce : wr.cell? ⟨pk, po + k, none⟩ = some (vI l[k]) := (hfz.cell hpk (fun h => hpb (L_SB h))).trans (hcs k hlt)
      have hdrop : Hd (l.drop k = l[k] :: l.drop (k + 1)) := List.drop_eq_getElem_cons hlt
      generalize l[k] = lk at hce hdrop
      have hcdz := variable_L pk (po + k) z lk wr honz hpb hce
      clear hcs
      go_wp2_with fail
      refine hcdz.mono ?_
      rintro e w2 ⟨hf2, hres⟩
      cases hox : oneL lk z with
      | error er =>
        rw [hox] at hres
        have hres : e = .panicked (viol er.1 er.2) := hres
        subst hres
        go_wp2_with fail
        refine ⟨rfl, hfz.trans hf2, ?_⟩
        rw [HLV.out, hvx.out, hdrop.out]
        simp only [varsL, hox, thenX]
      | ok z2 =>
        rw [hox] at hres
        obtain ⟨rfl, hon2⟩ := hres
        have hz2 : Hd (z2.1.getL o = .slice (some ⟨pk, po, none⟩) l.length c) := by
          unfold oneL at hox
          split at hox
          · cases hox; exact hzL.out
          · cases hox
        have hvx2 : Hd (varsL l y = varsL (l.drop (k + 1)) z2) := by
          unfold Hd; rw [hvx.out, hdrop.out]; simp only [varsL, hox, thenX]
        clear hcdz hce hox hvx hzL hclz
        go_wp2_with fail
        exact ⟨⟨k + 1, z2, by omega, by simp, hon2, hz2, hfz.trans hf2, hvx2⟩, by simp; omega⟩
    · have hkl : k = l.length := by omega
      subst hkl
      have hvl : Hd (varsL l y = .ok z) := by unfold Hd; rw [hvx.out, List.drop_length]; rfl
      clear hvx
      go_wp2_with fail
      go_end0
      refine ⟨hfz, ?_⟩
      rw [HLV.out, hvl.out]
      exact ⟨rfl, honz⟩


/-- Are the fields that an operation does not name zero? -/
def nbK (k : Nat) (s : WS) (la lr : Nat) : Bool :=
  match k with
  | 1 => (s.s == 0) && (s.t == 0) && ((la : Int) == 0) && ((lr : Int) == 0)
  | 2 => (s.t == 0) && (s.n == 0) && ((la : Int) == 0) && ((lr : Int) == 0)
  | 3 => (s.n == 0) && ((la : Int) == 0) && ((lr : Int) == 0)
  | 4 => (s.n == 0) && ((la : Int) == 0) && ((lr : Int) == 0)
  | 5 => (s.t == 0) && (s.n == 0) && ((la : Int) == 0) && ((lr : Int) == 0)
  | 6 => (s.s == 0) && (s.t == 0) && ((la : Int) == 0) && ((lr : Int) == 0)
  | 7 => (s.t == 0) && ((la : Int) == 0) && ((lr : Int) == 0)
  | 8 => (s.t == 0) && ((la : Int) == 0) && ((lr : Int) == 0)
  | 9 => (s.s == 0) && (s.t == 0) && ((la : Int) == 0) && ((lr : Int) == 0)
  | 10 => (s.r == 0) && (s.t == 0) && ((la : Int) == 0) && ((lr : Int) == 0)
  | 11 => (s.r == 0) && (s.s == 0) && (s.t == 0)
  | 12 => (s.r == 0) && (s.t == 0) && (s.n == 0) && ((la : Int) == 0) && ((lr : Int) == 0)
  | 13 => (s.r == 0) && (s.s == 0) && (s.t == 0) && ((la : Int) == 0) && ((lr : Int) == 0)
  | 14 => (s.r == 0) && (s.t == 0) && ((la : Int) == 0) && ((lr : Int) == 0)
  | 15 => (s.r == 0) && (s.s == 0) && (s.t == 0) && (s.n == 0) && ((lr : Int) == 0)
  | 16 => (s.s == 0) && (s.t == 0) && (s.n == 0) && ((la : Int) == 0) && ((lr : Int) == 0)
  | 17 => (s.n == 0) && ((la : Int) == 0) && ((lr : Int) == 0)
  | _ => true

theorem varsL_kept : ∀ {l : List Int} {x y : WS × Unit}, varsL l x = .ok y → Kept x.1 y.1 ∧ y.1.n = x.1.n
  | [], _, _, h => by cases h; exact ⟨Kept.refl _, rfl⟩
  | v :: r, x, y, h => by
    simp only [varsL, oneL] at h
    split at h
    · obtain ⟨h1, h2⟩ := varsL_kept h
      exact ⟨⟨h1.num, h1.globals, h1.funcs, h1.fP, h1.fR, h1.fV, h1.fC, h1.len, h1.op, h1.args, h1.rets⟩, h2⟩
    · cases h
theorem listL_kept {n : Nat} {l : List Int} {x y : WS × Unit} (h : listL n l x = .ok y) : Kept x.1 y.1 ∧ y.1.n = x.1.n := by
  unfold listL at h
  split at h
  · obtain ⟨h1, h2⟩ := varsL_kept h
    exact ⟨⟨h1.num, h1.globals, h1.funcs, h1.fP, h1.fR, h1.fV, h1.fC, h1.len, h1.op, h1.args, h1.rets⟩, h2⟩
  · cases h

theorem ends_plain {b : Nat} {M : Mode b} {w w' : World} {r : X (WS × M.σ)} {e : Ending} (h : Ends M w r e w') : Plain (Ends M w r) e w' := by
  refine ⟨?_, h⟩
  obtain ⟨-, h⟩ := h
  cases r with
  | ok y => exact Or.inl h.1
  | error z => exact Or.inr ⟨_, h⟩

def retL {b : Nat} (n : Nat) (la : List Int) (c : X (WS × (leaving b).σ)) : X (WS × (leaving b).σ) := thenX c (listL n la)

theorem instr_15L {b : Nat} (x y : WS × Unit) (w : World) (h : On (leaving b) w x) (i : Nat) (hi : i ≤ 4096) (hx : nextX (leaving b) 154 1 x = .ok y) (hk : y.1.op = 15) (hl0 : 0 ≤ y.1.len) (hl1 : y.1.len ≤ 4096) (nb : Bool)
    (hnames : ∀ w1, Lies w1 b y.1 → Calls Tryz.prog 92 #[.pointer (some ⟨b, 122, none⟩), .pointer (some ⟨b, 154, none⟩)] w1 fun e w' => e = .returned (.bool nb) ∧ w' = w1)
    (la : List Int) (ha : IL b w y.1.args la) (hll : la.length ≤ 1000000000000000) (n : Nat) (hR : y.1.fR = n) (hn : n ≤ 255) :
    Calls Tryz.prog 65 #[.pointer (some ⟨b, 0, none⟩), .int .i64 i] w (Ends (leaving b) w (retL n la (frontOk (leaving b) true false nb i x.1.at' y))) := by
  refine askInstr_15 (leaving b) (leaving_own b) x y w h i hi hx hk hl0 hl1 nb hnames _ (fun j w1 => match j with | 0 => Stage (leaving b) w y.1 (frontOk (leaving b) true false nb i x.1.at' y) w1 | 1 => Stage (leaving b) w y.1 (retL n la (frontOk (leaving b) true false nb i x.1.at' y)) w1 | _ => False)
    (fun z w1 hz hf => ends_error (by simp only [retL, hz, thenX]) hf) ?_ ?_ ?_ ?_ ?_
  · exact fun y' w1 hy hf hon => ⟨y', hy, hf, hon, frontOk_kept hy⟩
  · intro j w1 hj
    match j, hj with
    | 0, hj => exact Stage.lies hj
    | 1, hj => exact Stage.lies hj
  · intro j w1 hj
    match j, hj with
    | 0, hj => exact Stage.drew hj
    | 1, hj => exact Stage.drew hj
  · intro w1 hw1
    have hfw : Fr (leaving b).SB w w1 := hw1.choose_spec.2.1
    refine stage_step (M := leaving b) (p := listL n la) (fun a a' ha => (listL_kept ha).1) (fun z w' hz hf => ends_error hz hf) (fun yy hon hkp => ?_) hw1
    refine ownResults_any 159 n yy.1 w1 hon.1 (by rw [hkp.fR, hR]) _ ?_
    exact (list_L 159 n (Or.inl rfl) yy w1 hon la (by
      have e : yy.1.getL 159 = y.1.args := by unfold WS.getL; rw [if_pos rfl]; exact hkp.args
      rw [e]; exact ha.fr hfw (fun k hk => L_SB hk)) hll hn).mono (fun e w' he => ends_plain he)
  · exact fun w1 hw1 => stage_end hw1

/-- Call, its lists where they lie. -/
def callL {b : Nat} (heads : List (Nat × Nat)) (la lr : List Int) (c : X (WS × (leaving b).σ)) : X (WS × (leaving b).σ) :=
  thenX (thenX c (calleePart (leaving b) heads.length)) fun y =>
    thenX (listL ((heads.getD y.1.n.toNat (0, 0)).1) la y) fun y2 => listL ((heads.getD y.1.n.toNat (0, 0)).2) lr y2

def MidL {b : Nat} (w : World) (heads : List (Nat × Nat)) (la : List Int) (s0 : WS) (c : X (WS × (leaving b).σ)) (w1 : World) : Prop :=
  ∃ y y2, thenX c (calleePart (leaving b) heads.length) = .ok y ∧ listL ((heads.getD y.1.n.toNat (0, 0)).1) la y = .ok y2 ∧ Fr (leaving b).SB w w1 ∧ On (leaving b) w1 y2 ∧ Kept s0 y2.1 ∧ y2.1.n = y.1.n ∧ 0 ≤ y.1.n ∧ y.1.n < heads.length

theorem callee_in {b : Nat} {M : Mode b} {nf : Nat} (hnf : nf ≤ 65535) {c : X (WS × M.σ)} {y : WS × M.σ} (h : thenX c (calleePart M nf) = .ok y) : 0 ≤ y.1.n ∧ y.1.n < nf := by
  unfold thenX at h
  split at h
  · unfold calleePart askX at h
    split at h
    · split at h
      · rename_i hcond
        cases h
        simp only [decide_eq_true_eq] at hcond
        rw [wrap_small _ (by omega) (by omega)] at hcond
        omega
      · cases h
    · cases h
  · cases h

theorem instr_11L {b : Nat} (x y : WS × Unit) (w : World) (h : On (leaving b) w x) (i : Nat) (hi : i ≤ 4096) (hx : nextX (leaving b) 154 1 x = .ok y) (hk : y.1.op = 11) (hl0 : 0 ≤ y.1.len) (hl1 : y.1.len ≤ 4096) (nb : Bool)
    (hnames : ∀ w1, Lies w1 b y.1 → Calls Tryz.prog 92 #[.pointer (some ⟨b, 90, none⟩), .pointer (some ⟨b, 154, none⟩)] w1 fun e w' => e = .returned (.bool nb) ∧ w' = w1)
    (la lr : List Int) (ha : IL b w y.1.args la) (hr : IL b w y.1.rets lr) (hal : la.length ≤ 1000000000000000) (hrl : lr.length ≤ 1000000000000000) (heads : List (Nat × Nat)) (fb fo fc : Nat) (hfu : y.1.funcs = .slice (some ⟨fb, fo, none⟩) heads.length fc) (hH : HeadsAt w fb fo heads) (hfb : fb ≠ b) (hflt : fb < w.heap.size) (hnf : heads.length ≤ 65535) :
    Calls Tryz.prog 65 #[.pointer (some ⟨b, 0, none⟩), .int .i64 i] w (Ends (leaving b) w (callL heads la lr (frontOk (leaving b) false false nb i x.1.at' y))) := by
  have hSB : ¬ (leaving b).SB fb := fun h => hfb (L_SB h)
  generalize hC : frontOk (leaving b) false false nb i x.1.at' y = C
  refine askInstr_11 (leaving b) (leaving_own b) x y w h i hi hx hk hl0 hl1 nb hnames _ (fun j w1 => match j with | 0 => Stage (leaving b) w y.1 C w1 | 1 => Stage (leaving b) w y.1 (thenX C (calleePart (leaving b) heads.length)) w1 | 2 => MidL w heads la y.1 C w1 | 3 => Stage (leaving b) w y.1 (callL heads la lr C) w1 | _ => False)
    (fun z w1 hz hf => ends_error (by rw [← hC, hz]; rfl) hf) ?_ ?_ ?_ ?_ ?_ ?_ ?_
  · exact fun y' w1 hy hf hon => ⟨y', hC ▸ hy, hf, hon, frontOk_kept hy⟩
  · intro j w1 hj
    match j, hj with
    | 0, hj => exact Stage.lies hj
    | 1, hj => exact Stage.lies hj
    | 2, hj => obtain ⟨_, _, _, _, _, hon, _⟩ := hj; exact ⟨_, hon.1⟩
    | 3, hj => exact Stage.lies hj
  · intro j w1 hj
    match j, hj with
    | 0, hj => exact Stage.drew hj
    | 1, hj => exact Stage.drew hj
    | 2, hj => obtain ⟨y1, y2, e1, e2, hf, hon, hkk⟩ := hj; exact ⟨y1, y2, e1, e2, hf.drew, hon.drew, hkk⟩
    | 3, hj => exact Stage.drew hj
  · exact fun w1 hw1 => stage_step (p := calleePart (leaving b) heads.length) (fun a a' ha => askX_kept (by simp) ha) (fun z w' hz hf => ends_error (by unfold callL; rw [hz]; rfl) hf)
      (fun yy hon hkp => callee_own (leaving b) (leaving_own b) yy w1 hon 11 2 (by rw [hkp.op, hk]; rfl) (by omega) rfl (by omega) (by omega) _ heads.length fc (by rw [hkp.funcs, hfu])) hw1
  · rintro w1 ⟨y', hy', hf1, hon, hkp⟩
    have hN0 := callee_in hnf hy'
    obtain ⟨N, hNe⟩ := Int.eq_ofNat_of_zero_le hN0.1
    have hNlt : N < heads.length := by omega
    have hH1 := hH.fr hf1 hflt hSB N hNlt
    have hgd : heads.getD y'.1.n.toNat (0, 0) = heads[N] := by
      rw [hNe]; simp [List.getD, hNlt]
    refine calleeParams_any 159 (heads[N].1) N fb fo heads.length fc y'.1 w1 hon.1 hNe hNlt (by rw [hkp.funcs, hfu]) hH1.1 _ ?_
    refine (list_L 159 (heads[N].1) (Or.inl rfl) y' w1.drew hon.drew la (by
      have e : y'.1.getL 159 = y.1.args := by unfold WS.getL; rw [if_pos rfl]; exact hkp.args
      rw [e]; exact ha.fr hf1.drew (fun k hk => L_SB hk)) hal (by have := hH1.2.2.1; omega)).mono ?_
    rintro e w2 ⟨hf2, hres⟩
    have hf12 : Fr (leaving b).SB w w2 := hf1.drew.trans hf2
    cases hl : listL (heads[N].1) la y' with
    | error z =>
      rw [hl] at hres
      have hres : e = .panicked (viol z.1 z.2) := hres
      subst hres
      exact ⟨Or.inr ⟨_, rfl⟩, Or.inr ⟨_, rfl, ends_error (by unfold callL; rw [hy']; simp only [thenX, hgd, hl]) hf12⟩⟩
    | ok y2 =>
      rw [hl] at hres
      obtain ⟨rfl, hon2⟩ := hres
      have hk2 := listL_kept hl
      exact ⟨Or.inl rfl, Or.inl ⟨rfl, y', y2, hy', by rw [hgd]; exact hl, hf12, hon2, hkp.trans hk2.1, hk2.2, hN0⟩⟩
  · rintro w1 ⟨y', y2, hy', hl, hf1, hon, hkp, hn2, hN0⟩
    obtain ⟨N, hNe⟩ := Int.eq_ofNat_of_zero_le hN0.1
    have hNlt : N < heads.length := by omega
    have hH1 := hH.fr hf1 hflt hSB N hNlt
    have hgd : heads.getD y'.1.n.toNat (0, 0) = heads[N] := by
      rw [hNe]; simp [List.getD, hNlt]
    refine calleeResults_any 160 (heads[N].2) N fb fo heads.length fc y2.1 w1 hon.1 (hn2.trans hNe) hNlt (hkp.funcs.trans hfu) hH1.2.1 _ ?_
    refine (list_L 160 (heads[N].2) (Or.inr rfl) y2 w1.drew hon.drew lr (by
      have e : y2.1.getL 160 = y.1.rets := by unfold WS.getL; rw [if_neg (by omega)]; exact hkp.rets
      rw [e]; exact hr.fr hf1.drew (fun k hk => L_SB hk)) hrl (by have := hH1.2.2.2; omega)).mono ?_
    rintro e w2 ⟨hf2, hres⟩
    have hf12 : Fr (leaving b).SB w w2 := hf1.drew.trans hf2
    cases hl2 : listL (heads[N].2) lr y2 with
    | error z =>
      rw [hl2] at hres
      have hres : e = .panicked (viol z.1 z.2) := hres
      subst hres
      exact ⟨Or.inr ⟨_, rfl⟩, Or.inr ⟨_, rfl, ends_error (by unfold callL; rw [hy']; simp only [thenX, hl]; rw [hgd]; exact hl2) hf12⟩⟩
    | ok y3 =>
      rw [hl2] at hres
      obtain ⟨rfl, hon3⟩ := hres
      exact ⟨Or.inl rfl, Or.inl ⟨rfl, y3, by unfold callL; rw [hy']; simp only [thenX, hl]; rw [hgd]; exact hl2, hf12, hon3, hkp.trans (listL_kept hl2).1⟩⟩
  · exact fun w1 hw1 => stage_end hw1

/-- An instruction that stays where it stands. -/
def instrL {b : Nat} (heads : List (Nat × Nat)) (fR i : Nat) (la lr : List Int) (s : WS) : X (WS × (leaving b).σ) :=
  if 1 ≤ s.op ∧ s.op ≤ 17 then
    (if s.op = 15 then retL fR la (frontOk (leaving b) true false (nbK 15 s la.length lr.length) i s.at' ({ s with at' := adv s.at' 1 }, ()))
     else if s.op = 11 then callL heads la lr (frontOk (leaving b) false false (nbK 11 s la.length lr.length) i s.at' ({ s with at' := adv s.at' 1 }, ()))
     else partsX (leaving b) s.op.toNat (frontOk (leaving b) (s.op == 13) (s.op == 6) (nbK s.op.toNat s la.length lr.length) i s.at' ({ s with at' := adv s.at' 1 }, ())))
  else .error (12, s.at')

set_option maxHeartbeats 4000000 in
theorem instr_L {b : Nat} (s : WS) (w : World) (h : On (leaving b) w (s, ())) (i : Nat) (hi : i ≤ 4096) (hl0 : 0 ≤ s.len) (hl1 : s.len ≤ 4096)
    (fR : Nat) (hR : s.fR = fR) (hRn : fR ≤ 255) (la lr : List Int) (ha : IL b w s.args la) (hr : IL b w s.rets lr) (hal : la.length ≤ 1000000000000000) (hrl : lr.length ≤ 1000000000000000)
    (heads : List (Nat × Nat)) (fb fo fc : Nat) (hfu : s.funcs = .slice (some ⟨fb, fo, none⟩) heads.length fc) (hH : HeadsAt w fb fo heads) (hfb : fb ≠ b) (hflt : fb < w.heap.size) (hnf : heads.length ≤ 65535) :
    Calls Tryz.prog 65 #[.pointer (some ⟨b, 0, none⟩), .int .i64 i] w (Ends (leaving b) w (instrL heads fR i la lr s)) := by
  have hx : nextX (leaving b) 154 1 (s, ()) = .ok ({ s with at' := adv s.at' 1 }, ()) := L_next _ _ _ _
  by_cases hop : 1 ≤ s.op ∧ s.op ≤ 17
  rotate_left
  · refine (askInstr_noOp (leaving b) (leaving_own b) (s, ()) _ w h i hx hop).mono ?_
    rintro e w' ⟨rfl, hf⟩
    exact ends_error (z := (12, s.at')) (by unfold instrL; rw [if_neg hop]) hf
  have hX : instrL (b := b) heads fR i la lr s = (if s.op = 15 then retL fR la (frontOk (leaving b) true false (nbK 15 s la.length lr.length) i s.at' ({ s with at' := adv s.at' 1 }, ()))
     else if s.op = 11 then callL heads la lr (frontOk (leaving b) false false (nbK 11 s la.length lr.length) i s.at' ({ s with at' := adv s.at' 1 }, ()))
     else partsX (leaving b) s.op.toNat (frontOk (leaving b) (s.op == 13) (s.op == 6) (nbK s.op.toNat s la.length lr.length) i s.at' ({ s with at' := adv s.at' 1 }, ()))) := by unfold instrL; rw [if_pos hop]
  rw [hX]
  have ha2 := ha
  have hr2 := hr
  obtain ⟨aa, ca, ha0, -⟩ := ha2
  obtain ⟨ra, cr, hr0, -⟩ := hr2
  obtain ⟨k, hk⟩ := Int.eq_ofNat_of_zero_le (show 0 ≤ s.op by omega)
  have hk17 : k = 1 ∨ k = 2 ∨ k = 3 ∨ k = 4 ∨ k = 5 ∨ k = 6 ∨ k = 7 ∨ k = 8 ∨ k = 9 ∨ k = 10 ∨ k = 11 ∨ k = 12 ∨ k = 13 ∨ k = 14 ∨ k = 15 ∨ k = 16 ∨ k = 17 := by omega
  clear hX hop
  rcases hk17 with rfl | rfl | rfl | rfl | rfl | rfl | rfl | rfl | rfl | rfl | rfl | rfl | rfl | rfl | rfl | rfl | rfl
  · have eK : ∀ (Y : WS × (leaving b).σ), partsX (leaving b) s.op.toNat (frontOk (leaving b) (s.op == 13) (s.op == 6) (nbK s.op.toNat s la.length lr.length) i s.at' Y) = partsX (leaving b) 1 (frontOk (leaving b) false false (nbK 1 s la.length lr.length) i s.at' Y) := fun Y => by rw [hk]; rfl
    rw [if_neg (by rw [hk]; decide), if_neg (by rw [hk]; decide), eK]
    exact instr_1 (leaving b) (leaving_own b) (s, ()) ({ s with at' := adv s.at' 1 }, ()) w h i hi hx hk hl0 hl1 (nbK 1 s la.length lr.length) (fun w1 hl => namesAll_g1 { s with at' := adv s.at' 1 } w1 hl aa ra la.length ca lr.length cr ha0 hr0)
  · have eK : ∀ (Y : WS × (leaving b).σ), partsX (leaving b) s.op.toNat (frontOk (leaving b) (s.op == 13) (s.op == 6) (nbK s.op.toNat s la.length lr.length) i s.at' Y) = partsX (leaving b) 2 (frontOk (leaving b) false false (nbK 2 s la.length lr.length) i s.at' Y) := fun Y => by rw [hk]; rfl
    rw [if_neg (by rw [hk]; decide), if_neg (by rw [hk]; decide), eK]
    exact instr_2 (leaving b) (leaving_own b) (s, ()) ({ s with at' := adv s.at' 1 }, ()) w h i hi hx hk hl0 hl1 (nbK 2 s la.length lr.length) (fun w1 hl => namesAll_g2 { s with at' := adv s.at' 1 } w1 hl aa ra la.length ca lr.length cr ha0 hr0)
  · have eK : ∀ (Y : WS × (leaving b).σ), partsX (leaving b) s.op.toNat (frontOk (leaving b) (s.op == 13) (s.op == 6) (nbK s.op.toNat s la.length lr.length) i s.at' Y) = partsX (leaving b) 3 (frontOk (leaving b) false false (nbK 3 s la.length lr.length) i s.at' Y) := fun Y => by rw [hk]; rfl
    rw [if_neg (by rw [hk]; decide), if_neg (by rw [hk]; decide), eK]
    exact instr_3 (leaving b) (leaving_own b) (s, ()) ({ s with at' := adv s.at' 1 }, ()) w h i hi hx hk hl0 hl1 (nbK 3 s la.length lr.length) (fun w1 hl => namesAll_g3 { s with at' := adv s.at' 1 } w1 hl aa ra la.length ca lr.length cr ha0 hr0)
  · have eK : ∀ (Y : WS × (leaving b).σ), partsX (leaving b) s.op.toNat (frontOk (leaving b) (s.op == 13) (s.op == 6) (nbK s.op.toNat s la.length lr.length) i s.at' Y) = partsX (leaving b) 4 (frontOk (leaving b) false false (nbK 4 s la.length lr.length) i s.at' Y) := fun Y => by rw [hk]; rfl
    rw [if_neg (by rw [hk]; decide), if_neg (by rw [hk]; decide), eK]
    exact instr_4 (leaving b) (leaving_own b) (s, ()) ({ s with at' := adv s.at' 1 }, ()) w h i hi hx hk hl0 hl1 (nbK 4 s la.length lr.length) (fun w1 hl => namesAll_g4 { s with at' := adv s.at' 1 } w1 hl aa ra la.length ca lr.length cr ha0 hr0)
  · have eK : ∀ (Y : WS × (leaving b).σ), partsX (leaving b) s.op.toNat (frontOk (leaving b) (s.op == 13) (s.op == 6) (nbK s.op.toNat s la.length lr.length) i s.at' Y) = partsX (leaving b) 5 (frontOk (leaving b) false false (nbK 5 s la.length lr.length) i s.at' Y) := fun Y => by rw [hk]; rfl
    rw [if_neg (by rw [hk]; decide), if_neg (by rw [hk]; decide), eK]
    exact instr_5 (leaving b) (leaving_own b) (s, ()) ({ s with at' := adv s.at' 1 }, ()) w h i hi hx hk hl0 hl1 (nbK 5 s la.length lr.length) (fun w1 hl => namesAll_g5 { s with at' := adv s.at' 1 } w1 hl aa ra la.length ca lr.length cr ha0 hr0)
  · have eK : ∀ (Y : WS × (leaving b).σ), partsX (leaving b) s.op.toNat (frontOk (leaving b) (s.op == 13) (s.op == 6) (nbK s.op.toNat s la.length lr.length) i s.at' Y) = partsX (leaving b) 6 (frontOk (leaving b) false true (nbK 6 s la.length lr.length) i s.at' Y) := fun Y => by rw [hk]; rfl
    rw [if_neg (by rw [hk]; decide), if_neg (by rw [hk]; decide), eK]
    exact instr_6 (leaving b) (leaving_own b) (s, ()) ({ s with at' := adv s.at' 1 }, ()) w h i hi hx hk hl0 hl1 (nbK 6 s la.length lr.length) (fun w1 hl => namesAll_g6 { s with at' := adv s.at' 1 } w1 hl aa ra la.length ca lr.length cr ha0 hr0)
  · have eK : ∀ (Y : WS × (leaving b).σ), partsX (leaving b) s.op.toNat (frontOk (leaving b) (s.op == 13) (s.op == 6) (nbK s.op.toNat s la.length lr.length) i s.at' Y) = partsX (leaving b) 7 (frontOk (leaving b) false false (nbK 7 s la.length lr.length) i s.at' Y) := fun Y => by rw [hk]; rfl
    rw [if_neg (by rw [hk]; decide), if_neg (by rw [hk]; decide), eK]
    exact instr_7 (leaving b) (leaving_own b) (s, ()) ({ s with at' := adv s.at' 1 }, ()) w h i hi hx hk hl0 hl1 (nbK 7 s la.length lr.length) (fun w1 hl => namesAll_g7 { s with at' := adv s.at' 1 } w1 hl aa ra la.length ca lr.length cr ha0 hr0)
  · have eK : ∀ (Y : WS × (leaving b).σ), partsX (leaving b) s.op.toNat (frontOk (leaving b) (s.op == 13) (s.op == 6) (nbK s.op.toNat s la.length lr.length) i s.at' Y) = partsX (leaving b) 8 (frontOk (leaving b) false false (nbK 8 s la.length lr.length) i s.at' Y) := fun Y => by rw [hk]; rfl
    rw [if_neg (by rw [hk]; decide), if_neg (by rw [hk]; decide), eK]
    exact instr_8 (leaving b) (leaving_own b) (s, ()) ({ s with at' := adv s.at' 1 }, ()) w h i hi hx hk hl0 hl1 (nbK 8 s la.length lr.length) (fun w1 hl => namesAll_g8 { s with at' := adv s.at' 1 } w1 hl aa ra la.length ca lr.length cr ha0 hr0)
  · have eK : ∀ (Y : WS × (leaving b).σ), partsX (leaving b) s.op.toNat (frontOk (leaving b) (s.op == 13) (s.op == 6) (nbK s.op.toNat s la.length lr.length) i s.at' Y) = partsX (leaving b) 9 (frontOk (leaving b) false false (nbK 9 s la.length lr.length) i s.at' Y) := fun Y => by rw [hk]; rfl
    rw [if_neg (by rw [hk]; decide), if_neg (by rw [hk]; decide), eK]
    exact instr_9 (leaving b) (leaving_own b) (s, ()) ({ s with at' := adv s.at' 1 }, ()) w h i hi hx hk hl0 hl1 (nbK 9 s la.length lr.length) (fun w1 hl => namesAll_g9 { s with at' := adv s.at' 1 } w1 hl aa ra la.length ca lr.length cr ha0 hr0)
  · have eK : ∀ (Y : WS × (leaving b).σ), partsX (leaving b) s.op.toNat (frontOk (leaving b) (s.op == 13) (s.op == 6) (nbK s.op.toNat s la.length lr.length) i s.at' Y) = partsX (leaving b) 10 (frontOk (leaving b) false false (nbK 10 s la.length lr.length) i s.at' Y) := fun Y => by rw [hk]; rfl
    rw [if_neg (by rw [hk]; decide), if_neg (by rw [hk]; decide), eK]
    exact instr_10 (leaving b) (leaving_own b) (s, ()) ({ s with at' := adv s.at' 1 }, ()) w h i hi hx hk hl0 hl1 (nbK 10 s la.length lr.length) (fun w1 hl => namesAll_g10 { s with at' := adv s.at' 1 } w1 hl aa ra la.length ca lr.length cr ha0 hr0)
  · rw [if_neg (by rw [hk]; decide), if_pos (by rw [hk]; rfl)]
    exact instr_11L (s, ()) ({ s with at' := adv s.at' 1 }, ()) w h i hi hx hk hl0 hl1 (nbK 11 s la.length lr.length) (fun w1 hl => namesAll_g11 { s with at' := adv s.at' 1 } w1 hl aa ra la.length ca lr.length cr ha0 hr0) la lr ha hr hal hrl heads fb fo fc hfu hH hfb hflt hnf
  · have eK : ∀ (Y : WS × (leaving b).σ), partsX (leaving b) s.op.toNat (frontOk (leaving b) (s.op == 13) (s.op == 6) (nbK s.op.toNat s la.length lr.length) i s.at' Y) = partsX (leaving b) 12 (frontOk (leaving b) false false (nbK 12 s la.length lr.length) i s.at' Y) := fun Y => by rw [hk]; rfl
    rw [if_neg (by rw [hk]; decide), if_neg (by rw [hk]; decide), eK]
    exact instr_12 (leaving b) (leaving_own b) (s, ()) ({ s with at' := adv s.at' 1 }, ()) w h i hi hx hk hl0 hl1 (nbK 12 s la.length lr.length) (fun w1 hl => namesAll_g12 { s with at' := adv s.at' 1 } w1 hl aa ra la.length ca lr.length cr ha0 hr0)
  · have eK : ∀ (Y : WS × (leaving b).σ), partsX (leaving b) s.op.toNat (frontOk (leaving b) (s.op == 13) (s.op == 6) (nbK s.op.toNat s la.length lr.length) i s.at' Y) = partsX (leaving b) 13 (frontOk (leaving b) true false (nbK 13 s la.length lr.length) i s.at' Y) := fun Y => by rw [hk]; rfl
    rw [if_neg (by rw [hk]; decide), if_neg (by rw [hk]; decide), eK]
    exact instr_13 (leaving b) (leaving_own b) (s, ()) ({ s with at' := adv s.at' 1 }, ()) w h i hi hx hk hl0 hl1 (nbK 13 s la.length lr.length) (fun w1 hl => namesAll_g13 { s with at' := adv s.at' 1 } w1 hl aa ra la.length ca lr.length cr ha0 hr0)
  · have eK : ∀ (Y : WS × (leaving b).σ), partsX (leaving b) s.op.toNat (frontOk (leaving b) (s.op == 13) (s.op == 6) (nbK s.op.toNat s la.length lr.length) i s.at' Y) = partsX (leaving b) 14 (frontOk (leaving b) false false (nbK 14 s la.length lr.length) i s.at' Y) := fun Y => by rw [hk]; rfl
    rw [if_neg (by rw [hk]; decide), if_neg (by rw [hk]; decide), eK]
    exact instr_14 (leaving b) (leaving_own b) (s, ()) ({ s with at' := adv s.at' 1 }, ()) w h i hi hx hk hl0 hl1 (nbK 14 s la.length lr.length) (fun w1 hl => namesAll_g14 { s with at' := adv s.at' 1 } w1 hl aa ra la.length ca lr.length cr ha0 hr0)
  · rw [if_pos (by rw [hk]; rfl)]
    exact instr_15L (s, ()) ({ s with at' := adv s.at' 1 }, ()) w h i hi hx hk hl0 hl1 (nbK 15 s la.length lr.length) (fun w1 hl => namesAll_g15 { s with at' := adv s.at' 1 } w1 hl aa ra la.length ca lr.length cr ha0 hr0) la ha hal fR hR hRn
  · have eK : ∀ (Y : WS × (leaving b).σ), partsX (leaving b) s.op.toNat (frontOk (leaving b) (s.op == 13) (s.op == 6) (nbK s.op.toNat s la.length lr.length) i s.at' Y) = partsX (leaving b) 16 (frontOk (leaving b) false false (nbK 16 s la.length lr.length) i s.at' Y) := fun Y => by rw [hk]; rfl
    rw [if_neg (by rw [hk]; decide), if_neg (by rw [hk]; decide), eK]
    exact instr_16 (leaving b) (leaving_own b) (s, ()) ({ s with at' := adv s.at' 1 }, ()) w h i hi hx hk hl0 hl1 (nbK 16 s la.length lr.length) (fun w1 hl => namesAll_g16 { s with at' := adv s.at' 1 } w1 hl aa ra la.length ca lr.length cr ha0 hr0)
  · have eK : ∀ (Y : WS × (leaving b).σ), partsX (leaving b) s.op.toNat (frontOk (leaving b) (s.op == 13) (s.op == 6) (nbK s.op.toNat s la.length lr.length) i s.at' Y) = partsX (leaving b) 17 (frontOk (leaving b) false false (nbK 17 s la.length lr.length) i s.at' Y) := fun Y => by rw [hk]; rfl
    rw [if_neg (by rw [hk]; decide), if_neg (by rw [hk]; decide), eK]
    exact instr_17 (leaving b) (leaving_own b) (s, ()) ({ s with at' := adv s.at' 1 }, ()) w h i hi hx hk hl0 hl1 (nbK 17 s la.length lr.length) (fun w1 hl => namesAll_g17 { s with at' := adv s.at' 1 } w1 hl aa ra la.length ca lr.length cr ha0 hr0)


structure AI where
  op : Int
  r : Int
  s : Int
  t : Int
  n : Int
  args : List Int
  rets : List Int

theorem func_lies {w : World} {b : Nat} {s : WS} (fP fR fV len : Int) (fC : Value) (h : Lies w b s) :
    Lies (((((w.setCell ⟨b, 149, none⟩ (vI fP)).setCell ⟨b, 150, none⟩ (vI fR)).setCell ⟨b, 151, none⟩ (vI fV)).setCell ⟨b, 152, none⟩ fC).setCell ⟨b, 153, none⟩ (vI len)) b { s with fP := fP, fR := fR, fV := fV, fC := fC, len := len } := by
  have h1 := h.setCell (s' := { s with fP := fP }) 149 (vI fP) (by kernel_rfl)
  have h2 := h1.setCell (s' := { s with fP := fP, fR := fR }) 150 (vI fR) (by kernel_rfl)
  have h3 := h2.setCell (s' := { s with fP := fP, fR := fR, fV := fV }) 151 (vI fV) (by kernel_rfl)
  have h4 := h3.setCell (s' := { s with fP := fP, fR := fR, fV := fV, fC := fC }) 152 fC (by kernel_rfl)
  exact h4.setCell (s' := { s with fP := fP, fR := fR, fV := fV, fC := fC, len := len }) 153 (vI len) (by kernel_rfl)

/-- What instructions leave as it was. -/
structure Kept2 (s s' : WS) : Prop where
  num : s'.num = s.num
  globals : s'.globals = s.globals
  funcs : s'.funcs = s.funcs
  fP : s'.fP = s.fP
  fR : s'.fR = s.fR
  fV : s'.fV = s.fV
  fC : s'.fC = s.fC
  len : s'.len = s.len

theorem Kept2.refl (s : WS) : Kept2 s s := ⟨rfl, rfl, rfl, rfl, rfl, rfl, rfl, rfl⟩
theorem Kept2.trans {a b c : WS} (h : Kept2 a b) (k : Kept2 b c) : Kept2 a c :=
  ⟨k.num.trans h.num, k.globals.trans h.globals, k.funcs.trans h.funcs, k.fP.trans h.fP, k.fR.trans h.fR, k.fV.trans h.fV, k.fC.trans h.fC, k.len.trans h.len⟩
theorem Kept.two {a b : WS} (h : Kept a b) : Kept2 a b := ⟨h.num, h.globals, h.funcs, h.fP, h.fR, h.fV, h.fC, h.len⟩

theorem thenX_ok {α β : Type} {c : X α} {p : α → X β} {r : β} (h : thenX c p = .ok r) : ∃ y, c = .ok y ∧ p y = .ok r := by
  unfold thenX at h
  split at h
  · exact ⟨_, rfl, h⟩
  · cases h

/-- Instructions, a cell a field. -/
def CodeCells (w0 w : World) : List AI → List Value → Prop
  | [], cs => cs = []
  | a :: l, cs => ∃ av rv rest, cs = [vI a.op, vI a.r, vI a.s, vI a.t, vI a.n, av, rv] ++ rest ∧ NewL w0 w av a.args ∧ NewL w0 w rv a.rets ∧ CodeCells w0 w l rest

theorem CodeCells.length {w0 w : World} : ∀ {l : List AI} {cs : List Value}, CodeCells w0 w l cs → cs.length = l.length * 7
  | [], cs, h => by rw [show cs = [] from h]; rfl
  | a :: l, cs, h => by
    obtain ⟨av, rv, rest, rfl, -, -, h⟩ := h
    simp only [List.length_append, List.length_cons, List.length_nil, CodeCells.length h]
    omega

theorem CodeCells.fr {S : Nat → Prop} {w0 w w' : World} (f : Fr S w w') (hS : ∀ k, w0.heap.size ≤ k → k < w.heap.size → ¬ S k) : ∀ {l : List AI} {cs : List Value}, CodeCells w0 w l cs → CodeCells w0 w' l cs
  | [], _, h => h
  | _ :: _, _, h => by
    obtain ⟨av, rv, rest, e, h1, h2, h⟩ := h
    exact ⟨av, rv, rest, e, h1.fr f hS, h2.fr f hS, CodeCells.fr f hS h⟩

theorem CodeCells.mono {w0 w1 w : World} (hs : w0.heap.size ≤ w1.heap.size) : ∀ {l : List AI} {cs : List Value}, CodeCells w1 w l cs → CodeCells w0 w l cs
  | [], _, h => h
  | _ :: _, _, h => by
    obtain ⟨av, rv, rest, e, h1, h2, h⟩ := h
    exact ⟨av, rv, rest, e, h1.mono hs, h2.mono hs, CodeCells.mono hs h⟩


theorem NewL.slice {w0 w : World} {av : Value} {vs : List Int} (h : NewL w0 w av vs) : ∃ a n c, av = .slice a n c := by
  rcases h with ⟨-, rfl⟩ | ⟨g, -, rfl, -⟩
  · exact ⟨none, 0, 0, rfl⟩
  · exact ⟨_, _, _, rfl⟩



/-- A head as it was read. -/
structure HD where
  P : Int
  R : Int
  V : Int
  len : Int

/-- What heads leave as it was, and what they have been asked. -/
structure KeptH (s s' : WS) : Prop where
  num : s'.num = s.num
  globals : s'.globals = s.globals
  funcs : s'.funcs = s.funcs
  fC : s'.fC = s.fC
  args : s'.args = s.args
  rets : s'.rets = s.rets
  count : s'.count = s.count

theorem KeptH.refl (s : WS) : KeptH s s := ⟨rfl, rfl, rfl, rfl, rfl, rfl, rfl⟩
theorem KeptH.trans {a b c : WS} (h : KeptH a b) (k : KeptH b c) : KeptH a c :=
  ⟨k.num.trans h.num, k.globals.trans h.globals, k.funcs.trans h.funcs, k.fC.trans h.fC, k.args.trans h.args, k.rets.trans h.rets, k.count.trans h.count⟩

theorem nextX_keptH {b : Nat} {M : Mode b} {o size : Nat} {x y : WS × M.σ} (ho : o = 149 ∨ o = 150 ∨ o = 151 ∨ o = 153) (h : nextX M o size x = .ok y) : KeptH x.1 y.1 := by
  obtain ⟨v, st, rfl⟩ := nextX_num h
  rcases ho with rfl | rfl | rfl | rfl <;> exact ⟨rfl, rfl, rfl, rfl, rfl, rfl, rfl⟩

theorem headOk_ok {s : WS} {p : Int} {u : Unit} (h : headOk s p = .ok u) : (0 ≤ s.fV ∧ s.fV ≤ 255) ∧ (0 ≤ s.fP ∧ s.fP ≤ (if s.fV < 8 then s.fV else 8)) ∧ (0 ≤ s.fR ∧ s.fR ≤ 4) ∧ s.len ≤ 4096 ∧ 0 < s.len := by
  unfold headOk at h
  by_cases a1 : 0 ≤ s.fV ∧ s.fV ≤ 255
  · rw [if_neg (Decidable.not_not.2 a1)] at h
    by_cases a2 : 0 ≤ s.fP ∧ s.fP ≤ (if s.fV < 8 then s.fV else 8)
    · rw [if_neg (Decidable.not_not.2 a2)] at h
      by_cases a3 : 0 ≤ s.fR ∧ s.fR ≤ 4
      · rw [if_neg (Decidable.not_not.2 a3)] at h
        by_cases a4 : s.len ≤ 4096
        · rw [if_neg (Decidable.not_not.2 a4)] at h
          by_cases a5 : 0 < s.len
          · exact ⟨a1, a2, a3, a4, a5⟩
          · rw [if_pos a5] at h; cases h
        · rw [if_pos a4] at h; cases h
      · rw [if_pos a3] at h; cases h
    · rw [if_pos a2] at h; cases h
  · rw [if_pos a1] at h; cases h

theorem headX_ok {b : Nat} {M : Mode b} {x y : WS × M.σ} (h : headX M x = .ok y) : KeptH x.1 y.1 ∧ (0 ≤ y.1.fV ∧ y.1.fV ≤ 255) ∧ (0 ≤ y.1.fP ∧ y.1.fP ≤ 8) ∧ (0 ≤ y.1.fR ∧ y.1.fR ≤ 4) ∧ 0 < y.1.len ∧ y.1.len ≤ 4096 := by
  simp only [headX, bind, Except.bind] at h
  split at h
  · cases h
  · rename_i y1 h1
    split at h
    · cases h
    · rename_i y2 h2
      split at h
      · cases h
      · rename_i y3 h3
        split at h
        · cases h
        · rename_i y4 h4
          split at h
          · cases h
          · rename_i u h5
            have k := (((nextX_keptH (by simp) h1).trans (nextX_keptH (by simp) h2)).trans (nextX_keptH (by simp) h3)).trans (nextX_keptH (by simp) h4)
            unfold locX at h
            split at h
            · cases h
              have a := headOk_ok h5
              refine ⟨⟨k.num, k.globals, k.funcs, k.fC, k.args, k.rets, k.count⟩, a.1, ?_, a.2.2.1, a.2.2.2.2, a.2.2.2.1⟩
              have e : (if y4.1.fV < 8 then y4.1.fV else 8) ≤ 8 := by split <;> omega
              exact ⟨a.2.1.1, Int.le_trans a.2.1.2 e⟩
            · cases h


/-- The codes of the first functions lie each in a row of its own. -/
def CodesAt (w0 w : World) : List (List AI) → List Value → Prop
  | [], _ => True
  | l :: ls, c :: cs => (∃ gc cells, w0.heap.size ≤ gc ∧ c = .slice (some ⟨gc, 0, none⟩) l.length l.length ∧ w.heap[gc]? = some (.cells cells.toArray 43) ∧ CodeCells w0 w l cells) ∧ CodesAt w0 w ls cs
  | _ :: _, [] => False

theorem CodesAt.fr {S : Nat → Prop} {w0 w w' : World} (f : Fr S w w') (hS : ∀ k, w0.heap.size ≤ k → k < w.heap.size → ¬ S k) : ∀ {ls : List (List AI)} {cs : List Value}, CodesAt w0 w ls cs → CodesAt w0 w' ls cs
  | [], _, h => h
  | _ :: _, [], h => h
  | l :: ls, c :: cs, ⟨⟨gc, cells, h1, h2, h3, h4⟩, h⟩ => by
    have hlt : gc < w.heap.size := (Array.getElem?_eq_some_iff.1 h3).1
    exact ⟨⟨gc, cells, h1, h2, by rw [f.block gc hlt (hS gc h1 hlt)]; exact h3, h4.fr f hS⟩, CodesAt.fr f hS h⟩


/-- A walk without its addresses. -/
def WS.bare (s : WS) : WS := { s with num := nilS, funcs := nilS, fC := nilS, args := nilS, rets := nilS }


theorem bind_thenX {α β : Type} (c : X α) (p : α → X β) : (c >>= p) = thenX c p := by cases c <;> rfl

theorem headX_then {b : Nat} (M : Mode b) (x : WS × M.σ) : headX M x = thenX (nextX M 149 1 x) fun y1 => thenX (nextX M 150 1 y1) fun y2 => thenX (nextX M 151 1 y2) fun y3 => thenX (nextX M 153 2 y3) fun y4 =>
    thenX (headOk y4.1 x.1.at') fun _ => locX M y4.1.fV x.1.at' y4 := by
  unfold headX; simp only [bind_thenX]

theorem cells_funcs (s : WS) (v : Value) : s.cells.setIfInBounds 147 v = { s with funcs := v }.cells := by kernel_rfl

end Go.Proofs.YtjmbfjaahadbhaaGreatDoor
