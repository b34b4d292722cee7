import Derived.Test.YtingenonbkencaaDoorQN1a
import Derived.Test.YtingenonbkencaaDoorQN1b
import Derived.Test.YtingenonbkencaaDoorQN1c
import Derived.Test.YtingenonbkencaaDoorQN1d
import Derived.Test.YtingenonbkencaaDoorQN2
set_option linter.unusedVariables false
set_option linter.unusedSimpArgs false
namespace Go.Proofs.YtingenonbkencaaDoor
open Go.RowKit (wrap32 wrap64)
set_option maxHeartbeats 4000000
def nbK (k : Nat) (s : WS) (la lr : Nat) : Bool :=
  match k with
  | 1 => (s.s == 0) && (s.t == 0) && ((la : Int) == 0) && ((lr : Int) == 0)
  | 2 => (s.t == 0) && (s.n == 0) && ((la : Int) == 0) && ((lr : Int) == 0)
  | 3 => (s.n == 0) && ((la : Int) == 0) && ((lr : Int) == 0)
  | 4 => (s.n == 0) && ((la : Int) == 0) && ((lr : Int) == 0)
  | 5 => (s.t == 0) && (s.n == 0) && ((la : Int) == 0) && ((lr : Int) == 0)
  | 6 => (s.s == 0) && (s.t == 0) && ((la : Int) == 0) && ((lr : Int) == 0)
  | 7 => (s.t == 0) && ((la : Int) == 0) && ((lr : Int) == 0)
  | 8 => (s.t == 0) && ((la : Int) == 0) && ((lr : Int) == 0)
  | 9 => (s.s == 0) && (s.t == 0) && ((la : Int) == 0) && ((lr : Int) == 0)
  | 10 => (s.r == 0) && (s.t == 0) && ((la : Int) == 0) && ((lr : Int) == 0)
  | 11 => (s.r == 0) && (s.s == 0) && (s.t == 0)
  | 12 => (s.r == 0) && (s.t == 0) && (s.n == 0) && ((la : Int) == 0) && ((lr : Int) == 0)
  | 13 => (s.r == 0) && (s.s == 0) && (s.t == 0) && ((la : Int) == 0) && ((lr : Int) == 0)
  | 14 => (s.r == 0) && (s.t == 0) && ((la : Int) == 0) && ((lr : Int) == 0)
  | 15 => (s.r == 0) && (s.s == 0) && (s.t == 0) && (s.n == 0) && ((lr : Int) == 0)
  | 16 => (s.s == 0) && (s.t == 0) && (s.n == 0) && ((la : Int) == 0) && ((lr : Int) == 0)
  | 17 => (s.n == 0) && ((la : Int) == 0) && ((lr : Int) == 0)
  | _ => true
theorem varsL_kept : ∀ {l : List Int} {x y : WS × Unit}, varsL l x = .ok y → Kept x.1 y.1 ∧ y.1.n = x.1.n
  | [], _, _, h => by cases h; exact ⟨Kept.refl _, rfl⟩
  | v :: r, x, y, h => by
    simp only [varsL, oneL] at h
    split at h
    · obtain ⟨h1, h2⟩ := varsL_kept h
      exact ⟨⟨h1.num, h1.globals, h1.funcs, h1.fP, h1.fR, h1.fV, h1.fC, h1.len, h1.op, h1.args, h1.rets⟩, h2⟩
    · cases h
theorem listL_kept {n : Nat} {l : List Int} {x y : WS × Unit} (h : listL n l x = .ok y) : Kept x.1 y.1 ∧ y.1.n = x.1.n := by
  unfold listL at h
  split at h
  · obtain ⟨h1, h2⟩ := varsL_kept h
    exact ⟨⟨h1.num, h1.globals, h1.funcs, h1.fP, h1.fR, h1.fV, h1.fC, h1.len, h1.op, h1.args, h1.rets⟩, h2⟩
  · cases h
theorem ends_plain {b : Nat} {M : Mode b} {w w' : World} {r : X (WS × M.σ)} {e : Ending} (h : Ends M w r e w') : Plain (Ends M w r) e w' := by
  refine ⟨?_, h⟩
  obtain ⟨-, h⟩ := h
  cases r with
  | ok y => exact Or.inl h.1
  | error z => exact Or.inr ⟨_, h⟩
def retL {b : Nat} (n : Nat) (la : List Int) (c : X (WS × (leaving b).σ)) : X (WS × (leaving b).σ) := thenX c (listL n la)
theorem instr_15L {b : Nat} (x y : WS × Unit) (w : World) (h : On (leaving b) w x) (i : Nat) (hi : i ≤ 4096) (hx : nextX (leaving b) 154 1 x = .ok y) (hk : y.1.op = 15) (hl0 : 0 ≤ y.1.len) (hl1 : y.1.len ≤ 4096) (nb : Bool)
    (hnames : ∀ w1, Lies w1 b y.1 → Calls Tryd.prog 93 #[.pointer (some ⟨b, 122, none⟩), .pointer (some ⟨b, 154, none⟩)] w1 fun e w' => e = .returned (.bool nb) ∧ w' = w1)
    (la : List Int) (ha : IL b w y.1.args la) (hll : la.length ≤ 1000000000000000) (n : Nat) (hR : y.1.fR = n) (hn : n ≤ 255) :
    Calls Tryd.prog 65 #[.pointer (some ⟨b, 0, none⟩), .int .i64 i] w (Ends (leaving b) w (retL n la (frontOk (leaving b) true false nb i x.1.at' y))) := by
  refine askInstr_15 (leaving b) (leaving_own b) x y w h i hi hx hk hl0 hl1 nb hnames _ (fun j w1 => match j with | 0 => Stage (leaving b) w y.1 (frontOk (leaving b) true false nb i x.1.at' y) w1 | 1 => Stage (leaving b) w y.1 (retL n la (frontOk (leaving b) true false nb i x.1.at' y)) w1 | _ => False)
    (fun z w1 hz hf => ends_error (by simp only [retL, hz, thenX]) hf) ?_ ?_ ?_ ?_ ?_
  · exact fun y' w1 hy hf hon => ⟨y', hy, hf, hon, frontOk_kept hy⟩
  · intro j w1 hj
    match j, hj with
    | 0, hj => exact Stage.lies hj
    | 1, hj => exact Stage.lies hj
  · intro j w1 hj
    match j, hj with
    | 0, hj => exact Stage.drew hj
    | 1, hj => exact Stage.drew hj
  · intro w1 hw1
    have hfw : Fr (leaving b).SB w w1 := hw1.choose_spec.2.1
    refine stage_step (M := leaving b) (p := listL n la) (fun a a' ha => (listL_kept ha).1) (fun z w' hz hf => ends_error hz hf) (fun yy hon hkp => ?_) hw1
    refine ownResults_any 159 n yy.1 w1 hon.1 (by rw [hkp.fR, hR]) _ ?_
    exact (list_L 159 n (Or.inl rfl) yy w1 hon la (by
      have e : yy.1.getL 159 = y.1.args := by unfold WS.getL; rw [if_pos rfl]; exact hkp.args
      rw [e]; exact ha.fr hfw (fun k hk => L_SB hk)) hll hn).mono (fun e w' he => ends_plain he)
  · exact fun w1 hw1 => stage_end hw1
def callL {b : Nat} (heads : List (Nat × Nat)) (la lr : List Int) (c : X (WS × (leaving b).σ)) : X (WS × (leaving b).σ) :=
  thenX (thenX c (calleePart (leaving b) heads.length)) fun y =>
    thenX (listL ((heads.getD y.1.n.toNat (0, 0)).1) la y) fun y2 => listL ((heads.getD y.1.n.toNat (0, 0)).2) lr y2
def MidL {b : Nat} (w : World) (heads : List (Nat × Nat)) (la : List Int) (s0 : WS) (c : X (WS × (leaving b).σ)) (w1 : World) : Prop :=
  ∃ y y2, thenX c (calleePart (leaving b) heads.length) = .ok y ∧ listL ((heads.getD y.1.n.toNat (0, 0)).1) la y = .ok y2 ∧ Fr (leaving b).SB w w1 ∧ On (leaving b) w1 y2 ∧ Kept s0 y2.1 ∧ y2.1.n = y.1.n ∧ 0 ≤ y.1.n ∧ y.1.n < heads.length
theorem callee_in {b : Nat} {M : Mode b} {nf : Nat} (hnf : nf ≤ 65535) {c : X (WS × M.σ)} {y : WS × M.σ} (h : thenX c (calleePart M nf) = .ok y) : 0 ≤ y.1.n ∧ y.1.n < nf := by
  unfold thenX at h
  split at h
  · unfold calleePart askX at h
    split at h
    · split at h
      · rename_i hcond
        cases h
        simp only [decide_eq_true_eq] at hcond
        rw [wrap_small _ (by omega) (by omega)] at hcond
        omega
      · cases h
    · cases h
  · cases h
theorem instr_11L {b : Nat} (x y : WS × Unit) (w : World) (h : On (leaving b) w x) (i : Nat) (hi : i ≤ 4096) (hx : nextX (leaving b) 154 1 x = .ok y) (hk : y.1.op = 11) (hl0 : 0 ≤ y.1.len) (hl1 : y.1.len ≤ 4096) (nb : Bool)
    (hnames : ∀ w1, Lies w1 b y.1 → Calls Tryd.prog 93 #[.pointer (some ⟨b, 90, none⟩), .pointer (some ⟨b, 154, none⟩)] w1 fun e w' => e = .returned (.bool nb) ∧ w' = w1)
    (la lr : List Int) (ha : IL b w y.1.args la) (hr : IL b w y.1.rets lr) (hal : la.length ≤ 1000000000000000) (hrl : lr.length ≤ 1000000000000000) (heads : List (Nat × Nat)) (fb fo fc : Nat) (hfu : y.1.funcs = .slice (some ⟨fb, fo, none⟩) heads.length fc) (hH : HeadsAt w fb fo heads) (hfb : fb ≠ b) (hflt : fb < w.heap.size) (hnf : heads.length ≤ 65535) :
    Calls Tryd.prog 65 #[.pointer (some ⟨b, 0, none⟩), .int .i64 i] w (Ends (leaving b) w (callL heads la lr (frontOk (leaving b) false false nb i x.1.at' y))) := by
  have hSB : ¬ (leaving b).SB fb := fun h => hfb (L_SB h)
  generalize hC : frontOk (leaving b) false false nb i x.1.at' y = C
  refine askInstr_11 (leaving b) (leaving_own b) x y w h i hi hx hk hl0 hl1 nb hnames _ (fun j w1 => match j with | 0 => Stage (leaving b) w y.1 C w1 | 1 => Stage (leaving b) w y.1 (thenX C (calleePart (leaving b) heads.length)) w1 | 2 => MidL w heads la y.1 C w1 | 3 => Stage (leaving b) w y.1 (callL heads la lr C) w1 | _ => False)
    (fun z w1 hz hf => ends_error (by rw [← hC, hz]; rfl) hf) ?_ ?_ ?_ ?_ ?_ ?_ ?_
  · exact fun y' w1 hy hf hon => ⟨y', hC ▸ hy, hf, hon, frontOk_kept hy⟩
  · intro j w1 hj
    match j, hj with
    | 0, hj => exact Stage.lies hj
    | 1, hj => exact Stage.lies hj
    | 2, hj => obtain ⟨_, _, _, _, _, hon, _⟩ := hj; exact ⟨_, hon.1⟩
    | 3, hj => exact Stage.lies hj
  · intro j w1 hj
    match j, hj with
    | 0, hj => exact Stage.drew hj
    | 1, hj => exact Stage.drew hj
    | 2, hj => obtain ⟨y1, y2, e1, e2, hf, hon, hkk⟩ := hj; exact ⟨y1, y2, e1, e2, hf.drew, hon.drew, hkk⟩
    | 3, hj => exact Stage.drew hj
  · exact fun w1 hw1 => stage_step (p := calleePart (leaving b) heads.length) (fun a a' ha => askX_kept (by simp) ha) (fun z w' hz hf => ends_error (by unfold callL; rw [hz]; rfl) hf)
      (fun yy hon hkp => callee_own (leaving b) (leaving_own b) yy w1 hon 11 2 (by rw [hkp.op, hk]; rfl) (by omega) rfl (by omega) (by omega) _ heads.length fc (by rw [hkp.funcs, hfu])) hw1
  · rintro w1 ⟨y', hy', hf1, hon, hkp⟩
    have hN0 := callee_in hnf hy'
    obtain ⟨N, hNe⟩ := Int.eq_ofNat_of_zero_le hN0.1
    have hNlt : N < heads.length := by omega
    have hH1 := hH.fr hf1 hflt hSB N hNlt
    have hgd : heads.getD y'.1.n.toNat (0, 0) = heads[N] := by
      rw [hNe]; simp [List.getD, hNlt]
    refine calleeParams_any 159 (heads[N].1) N fb fo heads.length fc y'.1 w1 hon.1 hNe hNlt (by rw [hkp.funcs, hfu]) hH1.1 _ ?_
    refine (list_L 159 (heads[N].1) (Or.inl rfl) y' w1.drew hon.drew la (by
      have e : y'.1.getL 159 = y.1.args := by unfold WS.getL; rw [if_pos rfl]; exact hkp.args
      rw [e]; exact ha.fr hf1.drew (fun k hk => L_SB hk)) hal (by have := hH1.2.2.1; omega)).mono ?_
    rintro e w2 ⟨hf2, hres⟩
    have hf12 : Fr (leaving b).SB w w2 := hf1.drew.trans hf2
    cases hl : listL (heads[N].1) la y' with
    | error z =>
      rw [hl] at hres
      have hres : e = .panicked (viol z.1 z.2) := hres
      subst hres
      exact ⟨Or.inr ⟨_, rfl⟩, Or.inr ⟨_, rfl, ends_error (by unfold callL; rw [hy']; simp only [thenX, hgd, hl]) hf12⟩⟩
    | ok y2 =>
      rw [hl] at hres
      obtain ⟨rfl, hon2⟩ := hres
      have hk2 := listL_kept hl
      exact ⟨Or.inl rfl, Or.inl ⟨rfl, y', y2, hy', by rw [hgd]; exact hl, hf12, hon2, hkp.trans hk2.1, hk2.2, hN0⟩⟩
  · rintro w1 ⟨y', y2, hy', hl, hf1, hon, hkp, hn2, hN0⟩
    obtain ⟨N, hNe⟩ := Int.eq_ofNat_of_zero_le hN0.1
    have hNlt : N < heads.length := by omega
    have hH1 := hH.fr hf1 hflt hSB N hNlt
    have hgd : heads.getD y'.1.n.toNat (0, 0) = heads[N] := by
      rw [hNe]; simp [List.getD, hNlt]
    refine calleeResults_any 160 (heads[N].2) N fb fo heads.length fc y2.1 w1 hon.1 (hn2.trans hNe) hNlt (hkp.funcs.trans hfu) hH1.2.1 _ ?_
    refine (list_L 160 (heads[N].2) (Or.inr rfl) y2 w1.drew hon.drew lr (by
      have e : y2.1.getL 160 = y.1.rets := by unfold WS.getL; rw [if_neg (by omega)]; exact hkp.rets
      rw [e]; exact hr.fr hf1.drew (fun k hk => L_SB hk)) hrl (by have := hH1.2.2.2; omega)).mono ?_
    rintro e w2 ⟨hf2, hres⟩
    have hf12 : Fr (leaving b).SB w w2 := hf1.drew.trans hf2
    cases hl2 : listL (heads[N].2) lr y2 with
    | error z =>
      rw [hl2] at hres
      have hres : e = .panicked (viol z.1 z.2) := hres
      subst hres
      exact ⟨Or.inr ⟨_, rfl⟩, Or.inr ⟨_, rfl, ends_error (by unfold callL; rw [hy']; simp only [thenX, hl]; rw [hgd]; exact hl2) hf12⟩⟩
    | ok y3 =>
      rw [hl2] at hres
      obtain ⟨rfl, hon3⟩ := hres
      exact ⟨Or.inl rfl, Or.inl ⟨rfl, y3, by unfold callL; rw [hy']; simp only [thenX, hl]; rw [hgd]; exact hl2, hf12, hon3, hkp.trans (listL_kept hl2).1⟩⟩
  · exact fun w1 hw1 => stage_end hw1
def instrL {b : Nat} (heads : List (Nat × Nat)) (fR i : Nat) (la lr : List Int) (s : WS) : X (WS × (leaving b).σ) :=
  if 1 ≤ s.op ∧ s.op ≤ 17 then
    (if s.op = 15 then retL fR la (frontOk (leaving b) true false (nbK 15 s la.length lr.length) i s.at' ({ s with at' := adv s.at' 1 }, ()))
     else if s.op = 11 then callL heads la lr (frontOk (leaving b) false false (nbK 11 s la.length lr.length) i s.at' ({ s with at' := adv s.at' 1 }, ()))
     else partsX (leaving b) s.op.toNat (frontOk (leaving b) (s.op == 13) (s.op == 6) (nbK s.op.toNat s la.length lr.length) i s.at' ({ s with at' := adv s.at' 1 }, ())))
  else .error (12, s.at')
theorem instr_L {b : Nat} (s : WS) (w : World) (h : On (leaving b) w (s, ())) (i : Nat) (hi : i ≤ 4096) (hl0 : 0 ≤ s.len) (hl1 : s.len ≤ 4096)
    (fR : Nat) (hR : s.fR = fR) (hRn : fR ≤ 255) (la lr : List Int) (ha : IL b w s.args la) (hr : IL b w s.rets lr) (hal : la.length ≤ 1000000000000000) (hrl : lr.length ≤ 1000000000000000)
    (heads : List (Nat × Nat)) (fb fo fc : Nat) (hfu : s.funcs = .slice (some ⟨fb, fo, none⟩) heads.length fc) (hH : HeadsAt w fb fo heads) (hfb : fb ≠ b) (hflt : fb < w.heap.size) (hnf : heads.length ≤ 65535) :
    Calls Tryd.prog 65 #[.pointer (some ⟨b, 0, none⟩), .int .i64 i] w (Ends (leaving b) w (instrL heads fR i la lr s)) := by
  have hx : nextX (leaving b) 154 1 (s, ()) = .ok ({ s with at' := adv s.at' 1 }, ()) := L_next _ _ _ _
  by_cases hop : 1 ≤ s.op ∧ s.op ≤ 17
  rotate_left
  · refine (askInstr_noOp (leaving b) (leaving_own b) (s, ()) _ w h i hx hop).mono ?_
    rintro e w' ⟨rfl, hf⟩
    exact ends_error (z := (12, s.at')) (by unfold instrL; rw [if_neg hop]) hf
  have hX : instrL (b := b) heads fR i la lr s = (if s.op = 15 then retL fR la (frontOk (leaving b) true false (nbK 15 s la.length lr.length) i s.at' ({ s with at' := adv s.at' 1 }, ()))
     else if s.op = 11 then callL heads la lr (frontOk (leaving b) false false (nbK 11 s la.length lr.length) i s.at' ({ s with at' := adv s.at' 1 }, ()))
     else partsX (leaving b) s.op.toNat (frontOk (leaving b) (s.op == 13) (s.op == 6) (nbK s.op.toNat s la.length lr.length) i s.at' ({ s with at' := adv s.at' 1 }, ()))) := by unfold instrL; rw [if_pos hop]
  rw [hX]
  have ha2 := ha
  have hr2 := hr
  obtain ⟨aa, ca, ha0, -⟩ := ha2
  obtain ⟨ra, cr, hr0, -⟩ := hr2
  obtain ⟨k, hk⟩ := Int.eq_ofNat_of_zero_le (show 0 ≤ s.op by omega)
  have hk17 : k = 1 ∨ k = 2 ∨ k = 3 ∨ k = 4 ∨ k = 5 ∨ k = 6 ∨ k = 7 ∨ k = 8 ∨ k = 9 ∨ k = 10 ∨ k = 11 ∨ k = 12 ∨ k = 13 ∨ k = 14 ∨ k = 15 ∨ k = 16 ∨ k = 17 := by omega
  clear hX hop
  rcases hk17 with rfl | rfl | rfl | rfl | rfl | rfl | rfl | rfl | rfl | rfl | rfl | rfl | rfl | rfl | rfl | rfl | rfl
  · have eK : ∀ (Y : WS × (leaving b).σ), partsX (leaving b) s.op.toNat (frontOk (leaving b) (s.op == 13) (s.op == 6) (nbK s.op.toNat s la.length lr.length) i s.at' Y) = partsX (leaving b) 1 (frontOk (leaving b) false false (nbK 1 s la.length lr.length) i s.at' Y) := fun Y => by rw [hk]; rfl
    rw [if_neg (by rw [hk]; decide), if_neg (by rw [hk]; decide), eK]
    exact instr_1 (leaving b) (leaving_own b) (s, ()) ({ s with at' := adv s.at' 1 }, ()) w h i hi hx hk hl0 hl1 (nbK 1 s la.length lr.length) (fun w1 hl => namesAll_g1 { s with at' := adv s.at' 1 } w1 hl aa ra la.length ca lr.length cr ha0 hr0)
  · have eK : ∀ (Y : WS × (leaving b).σ), partsX (leaving b) s.op.toNat (frontOk (leaving b) (s.op == 13) (s.op == 6) (nbK s.op.toNat s la.length lr.length) i s.at' Y) = partsX (leaving b) 2 (frontOk (leaving b) false false (nbK 2 s la.length lr.length) i s.at' Y) := fun Y => by rw [hk]; rfl
    rw [if_neg (by rw [hk]; decide), if_neg (by rw [hk]; decide), eK]
    exact instr_2 (leaving b) (leaving_own b) (s, ()) ({ s with at' := adv s.at' 1 }, ()) w h i hi hx hk hl0 hl1 (nbK 2 s la.length lr.length) (fun w1 hl => namesAll_g2 { s with at' := adv s.at' 1 } w1 hl aa ra la.length ca lr.length cr ha0 hr0)
  · have eK : ∀ (Y : WS × (leaving b).σ), partsX (leaving b) s.op.toNat (frontOk (leaving b) (s.op == 13) (s.op == 6) (nbK s.op.toNat s la.length lr.length) i s.at' Y) = partsX (leaving b) 3 (frontOk (leaving b) false false (nbK 3 s la.length lr.length) i s.at' Y) := fun Y => by rw [hk]; rfl
    rw [if_neg (by rw [hk]; decide), if_neg (by rw [hk]; decide), eK]
    exact instr_3 (leaving b) (leaving_own b) (s, ()) ({ s with at' := adv s.at' 1 }, ()) w h i hi hx hk hl0 hl1 (nbK 3 s la.length lr.length) (fun w1 hl => namesAll_g3 { s with at' := adv s.at' 1 } w1 hl aa ra la.length ca lr.length cr ha0 hr0)
  · have eK : ∀ (Y : WS × (leaving b).σ), partsX (leaving b) s.op.toNat (frontOk (leaving b) (s.op == 13) (s.op == 6) (nbK s.op.toNat s la.length lr.length) i s.at' Y) = partsX (leaving b) 4 (frontOk (leaving b) false false (nbK 4 s la.length lr.length) i s.at' Y) := fun Y => by rw [hk]; rfl
    rw [if_neg (by rw [hk]; decide), if_neg (by rw [hk]; decide), eK]
    exact instr_4 (leaving b) (leaving_own b) (s, ()) ({ s with at' := adv s.at' 1 }, ()) w h i hi hx hk hl0 hl1 (nbK 4 s la.length lr.length) (fun w1 hl => namesAll_g4 { s with at' := adv s.at' 1 } w1 hl aa ra la.length ca lr.length cr ha0 hr0)
  · have eK : ∀ (Y : WS × (leaving b).σ), partsX (leaving b) s.op.toNat (frontOk (leaving b) (s.op == 13) (s.op == 6) (nbK s.op.toNat s la.length lr.length) i s.at' Y) = partsX (leaving b) 5 (frontOk (leaving b) false false (nbK 5 s la.length lr.length) i s.at' Y) := fun Y => by rw [hk]; rfl
    rw [if_neg (by rw [hk]; decide), if_neg (by rw [hk]; decide), eK]
    exact instr_5 (leaving b) (leaving_own b) (s, ()) ({ s with at' := adv s.at' 1 }, ()) w h i hi hx hk hl0 hl1 (nbK 5 s la.length lr.length) (fun w1 hl => namesAll_g5 { s with at' := adv s.at' 1 } w1 hl aa ra la.length ca lr.length cr ha0 hr0)
  · have eK : ∀ (Y : WS × (leaving b).σ), partsX (leaving b) s.op.toNat (frontOk (leaving b) (s.op == 13) (s.op == 6) (nbK s.op.toNat s la.length lr.length) i s.at' Y) = partsX (leaving b) 6 (frontOk (leaving b) false true (nbK 6 s la.length lr.length) i s.at' Y) := fun Y => by rw [hk]; rfl
    rw [if_neg (by rw [hk]; decide), if_neg (by rw [hk]; decide), eK]
    exact instr_6 (leaving b) (leaving_own b) (s, ()) ({ s with at' := adv s.at' 1 }, ()) w h i hi hx hk hl0 hl1 (nbK 6 s la.length lr.length) (fun w1 hl => namesAll_g6 { s with at' := adv s.at' 1 } w1 hl aa ra la.length ca lr.length cr ha0 hr0)
  · have eK : ∀ (Y : WS × (leaving b).σ), partsX (leaving b) s.op.toNat (frontOk (leaving b) (s.op == 13) (s.op == 6) (nbK s.op.toNat s la.length lr.length) i s.at' Y) = partsX (leaving b) 7 (frontOk (leaving b) false false (nbK 7 s la.length lr.length) i s.at' Y) := fun Y => by rw [hk]; rfl
    rw [if_neg (by rw [hk]; decide), if_neg (by rw [hk]; decide), eK]
    exact instr_7 (leaving b) (leaving_own b) (s, ()) ({ s with at' := adv s.at' 1 }, ()) w h i hi hx hk hl0 hl1 (nbK 7 s la.length lr.length) (fun w1 hl => namesAll_g7 { s with at' := adv s.at' 1 } w1 hl aa ra la.length ca lr.length cr ha0 hr0)
  · have eK : ∀ (Y : WS × (leaving b).σ), partsX (leaving b) s.op.toNat (frontOk (leaving b) (s.op == 13) (s.op == 6) (nbK s.op.toNat s la.length lr.length) i s.at' Y) = partsX (leaving b) 8 (frontOk (leaving b) false false (nbK 8 s la.length lr.length) i s.at' Y) := fun Y => by rw [hk]; rfl
    rw [if_neg (by rw [hk]; decide), if_neg (by rw [hk]; decide), eK]
    exact instr_8 (leaving b) (leaving_own b) (s, ()) ({ s with at' := adv s.at' 1 }, ()) w h i hi hx hk hl0 hl1 (nbK 8 s la.length lr.length) (fun w1 hl => namesAll_g8 { s with at' := adv s.at' 1 } w1 hl aa ra la.length ca lr.length cr ha0 hr0)
  · have eK : ∀ (Y : WS × (leaving b).σ), partsX (leaving b) s.op.toNat (frontOk (leaving b) (s.op == 13) (s.op == 6) (nbK s.op.toNat s la.length lr.length) i s.at' Y) = partsX (leaving b) 9 (frontOk (leaving b) false false (nbK 9 s la.length lr.length) i s.at' Y) := fun Y => by rw [hk]; rfl
    rw [if_neg (by rw [hk]; decide), if_neg (by rw [hk]; decide), eK]
    exact instr_9 (leaving b) (leaving_own b) (s, ()) ({ s with at' := adv s.at' 1 }, ()) w h i hi hx hk hl0 hl1 (nbK 9 s la.length lr.length) (fun w1 hl => namesAll_g9 { s with at' := adv s.at' 1 } w1 hl aa ra la.length ca lr.length cr ha0 hr0)
  · have eK : ∀ (Y : WS × (leaving b).σ), partsX (leaving b) s.op.toNat (frontOk (leaving b) (s.op == 13) (s.op == 6) (nbK s.op.toNat s la.length lr.length) i s.at' Y) = partsX (leaving b) 10 (frontOk (leaving b) false false (nbK 10 s la.length lr.length) i s.at' Y) := fun Y => by rw [hk]; rfl
    rw [if_neg (by rw [hk]; decide), if_neg (by rw [hk]; decide), eK]
    exact instr_10 (leaving b) (leaving_own b) (s, ()) ({ s with at' := adv s.at' 1 }, ()) w h i hi hx hk hl0 hl1 (nbK 10 s la.length lr.length) (fun w1 hl => namesAll_g10 { s with at' := adv s.at' 1 } w1 hl aa ra la.length ca lr.length cr ha0 hr0)
  · rw [if_neg (by rw [hk]; decide), if_pos (by rw [hk]; rfl)]
    exact instr_11L (s, ()) ({ s with at' := adv s.at' 1 }, ()) w h i hi hx hk hl0 hl1 (nbK 11 s la.length lr.length) (fun w1 hl => namesAll_g11 { s with at' := adv s.at' 1 } w1 hl aa ra la.length ca lr.length cr ha0 hr0) la lr ha hr hal hrl heads fb fo fc hfu hH hfb hflt hnf
  · have eK : ∀ (Y : WS × (leaving b).σ), partsX (leaving b) s.op.toNat (frontOk (leaving b) (s.op == 13) (s.op == 6) (nbK s.op.toNat s la.length lr.length) i s.at' Y) = partsX (leaving b) 12 (frontOk (leaving b) false false (nbK 12 s la.length lr.length) i s.at' Y) := fun Y => by rw [hk]; rfl
    rw [if_neg (by rw [hk]; decide), if_neg (by rw [hk]; decide), eK]
    exact instr_12 (leaving b) (leaving_own b) (s, ()) ({ s with at' := adv s.at' 1 }, ()) w h i hi hx hk hl0 hl1 (nbK 12 s la.length lr.length) (fun w1 hl => namesAll_g12 { s with at' := adv s.at' 1 } w1 hl aa ra la.length ca lr.length cr ha0 hr0)
  · have eK : ∀ (Y : WS × (leaving b).σ), partsX (leaving b) s.op.toNat (frontOk (leaving b) (s.op == 13) (s.op == 6) (nbK s.op.toNat s la.length lr.length) i s.at' Y) = partsX (leaving b) 13 (frontOk (leaving b) true false (nbK 13 s la.length lr.length) i s.at' Y) := fun Y => by rw [hk]; rfl
    rw [if_neg (by rw [hk]; decide), if_neg (by rw [hk]; decide), eK]
    exact instr_13 (leaving b) (leaving_own b) (s, ()) ({ s with at' := adv s.at' 1 }, ()) w h i hi hx hk hl0 hl1 (nbK 13 s la.length lr.length) (fun w1 hl => namesAll_g13 { s with at' := adv s.at' 1 } w1 hl aa ra la.length ca lr.length cr ha0 hr0)
  · have eK : ∀ (Y : WS × (leaving b).σ), partsX (leaving b) s.op.toNat (frontOk (leaving b) (s.op == 13) (s.op == 6) (nbK s.op.toNat s la.length lr.length) i s.at' Y) = partsX (leaving b) 14 (frontOk (leaving b) false false (nbK 14 s la.length lr.length) i s.at' Y) := fun Y => by rw [hk]; rfl
    rw [if_neg (by rw [hk]; decide), if_neg (by rw [hk]; decide), eK]
    exact instr_14 (leaving b) (leaving_own b) (s, ()) ({ s with at' := adv s.at' 1 }, ()) w h i hi hx hk hl0 hl1 (nbK 14 s la.length lr.length) (fun w1 hl => namesAll_g14 { s with at' := adv s.at' 1 } w1 hl aa ra la.length ca lr.length cr ha0 hr0)
  · rw [if_pos (by rw [hk]; rfl)]
    exact instr_15L (s, ()) ({ s with at' := adv s.at' 1 }, ()) w h i hi hx hk hl0 hl1 (nbK 15 s la.length lr.length) (fun w1 hl => namesAll_g15 { s with at' := adv s.at' 1 } w1 hl aa ra la.length ca lr.length cr ha0 hr0) la ha hal fR hR hRn
  · have eK : ∀ (Y : WS × (leaving b).σ), partsX (leaving b) s.op.toNat (frontOk (leaving b) (s.op == 13) (s.op == 6) (nbK s.op.toNat s la.length lr.length) i s.at' Y) = partsX (leaving b) 16 (frontOk (leaving b) false false (nbK 16 s la.length lr.length) i s.at' Y) := fun Y => by rw [hk]; rfl
    rw [if_neg (by rw [hk]; decide), if_neg (by rw [hk]; decide), eK]
    exact instr_16 (leaving b) (leaving_own b) (s, ()) ({ s with at' := adv s.at' 1 }, ()) w h i hi hx hk hl0 hl1 (nbK 16 s la.length lr.length) (fun w1 hl => namesAll_g16 { s with at' := adv s.at' 1 } w1 hl aa ra la.length ca lr.length cr ha0 hr0)
  · have eK : ∀ (Y : WS × (leaving b).σ), partsX (leaving b) s.op.toNat (frontOk (leaving b) (s.op == 13) (s.op == 6) (nbK s.op.toNat s la.length lr.length) i s.at' Y) = partsX (leaving b) 17 (frontOk (leaving b) false false (nbK 17 s la.length lr.length) i s.at' Y) := fun Y => by rw [hk]; rfl
    rw [if_neg (by rw [hk]; decide), if_neg (by rw [hk]; decide), eK]
    exact instr_17 (leaving b) (leaving_own b) (s, ()) ({ s with at' := adv s.at' 1 }, ()) w h i hi hx hk hl0 hl1 (nbK 17 s la.length lr.length) (fun w1 hl => namesAll_g17 { s with at' := adv s.at' 1 } w1 hl aa ra la.length ca lr.length cr ha0 hr0)
end Go.Proofs.YtingenonbkencaaDoor
