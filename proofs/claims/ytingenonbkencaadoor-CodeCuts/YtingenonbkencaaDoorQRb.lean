import Derived.Test.YtingenonbkencaaDoorQRaJ
import Derived.Test.YtingenonbkencaaDoorQN3
set_option linter.unusedVariables false
set_option linter.unusedSimpArgs false
namespace Go.Proofs.YtingenonbkencaaDoor
open Go.RowKit (wrap32 wrap64)
set_option maxHeartbeats 4000000
theorem oneK_kept {b : Nat} {M : Mode b} {v : Int} {x y : WS × M.σ} (h : oneK M v x = .ok y) : Kept x.1 y.1 ∧ y.1.n = x.1.n := by
  unfold oneK at h
  split at h
  · split at h
    · cases h; exact ⟨⟨rfl, rfl, rfl, rfl, rfl, rfl, rfl, rfl, rfl, rfl, rfl⟩, rfl⟩
    · cases h
  · cases h
theorem varsK_kept {b : Nat} {M : Mode b} : ∀ {l : List Int} {x y : WS × M.σ}, varsK M l x = .ok y → Kept x.1 y.1 ∧ y.1.n = x.1.n
  | [], _, _, h => by cases h; exact ⟨Kept.refl _, rfl⟩
  | v :: r, x, y, h => by
    unfold varsK at h
    cases h1 : oneK M v x with
    | error z => rw [h1] at h; cases h
    | ok x1 =>
      rw [h1] at h
      obtain ⟨a1, a2⟩ := oneK_kept h1
      obtain ⟨b1, b2⟩ := varsK_kept (l := r) (x := x1) (y := y) h
      exact ⟨a1.trans b1, b2.trans a2⟩
theorem listK_kept {b : Nat} {M : Mode b} {n : Nat} {l : List Int} {x y : WS × M.σ} (h : listK M n l x = .ok y) : Kept x.1 y.1 ∧ y.1.n = x.1.n := by
  unfold listK at h
  cases h1 : nextX M 161 1 ({ x.1 with count := l.length }, x.2) with
  | error z => rw [h1] at h; cases h
  | ok x1 =>
    rw [h1] at h
    simp only [thenX] at h
    split at h
    · obtain ⟨b1, b2⟩ := varsK_kept h
      have k1 : Kept x.1 x1.1 := by
        have := nextX_kept (by simp) h1
        exact ⟨this.num, this.globals, this.funcs, this.fP, this.fR, this.fV, this.fC, this.len, this.op, this.args, this.rets⟩
      have n1 : x1.1.n = x.1.n := by
        obtain ⟨v, st, rfl⟩ := nextX_num h1
        rfl
      exact ⟨k1.trans b1, b2.trans n1⟩
    · cases h
def retK {b : Nat} (M : Mode b) (n : Nat) (la : List Int) (c : X (WS × M.σ)) : X (WS × M.σ) := thenX c (listK M n la)
theorem instr_15K {b : Nat} {M : Mode b} {rm : M.σ → Nat} (hM : KM M rm) (x y : WS × M.σ) (w : World) (h : On M w x) (hp : 20 ≤ rm x.2) (i : Nat) (hi : i ≤ 4096) (hx : nextX M 154 1 x = .ok y) (hk : y.1.op = 15) (hl0 : 0 ≤ y.1.len) (hl1 : y.1.len ≤ 4096) (nb : Bool)
    (hnames : ∀ w1, Lies w1 b y.1 → Calls Tryd.prog 93 #[.pointer (some ⟨b, 122, none⟩), .pointer (some ⟨b, 154, none⟩)] w1 fun e w' => e = .returned (.bool nb) ∧ w' = w1)
    (la : List Int) (ha : IS M.SB w y.1.args la) (hll : la.length ≤ 1000000000000000) (n : Nat) (hR : y.1.fR = n) (hn : n ≤ 4) :
    Calls Tryd.prog 65 #[.pointer (some ⟨b, 0, none⟩), .int .i64 i] w (Ends M w (retK M n la (frontOk M true false nb i x.1.at' y))) := by
  have G0 := front_goes hM.goes hx true false nb i x.1.at'
  refine askInstr_15at M rm hM.next x y w h (by omega) i hi hx hk hl0 hl1 nb hnames _ (fun j w1 => match j with | 0 => Stage M w y.1 (frontOk M true false nb i x.1.at' y) w1 | 1 => Stage M w y.1 (retK M n la (frontOk M true false nb i x.1.at' y)) w1 | _ => False)
    (fun z w1 hz hf => ends_error (by simp only [retK, hz, thenX]) hf) ?_ ?_ ?_ ?_ ?_
  · exact fun y' w1 hy hf hon => ⟨y', hy, hf, hon, frontOk_kept hy⟩
  · intro j w1 hj
    match j, hj with
    | 0, hj => exact Stage.lies hj
    | 1, hj => exact Stage.lies hj
  · intro j w1 hj
    match j, hj with
    | 0, hj => exact Stage.drew hj
    | 1, hj => exact Stage.drew hj
  · intro w1 hw1
    have hfw : Fr M.SB w w1 := hw1.choose_spec.2.1
    refine stage_stepR (M := M) (p := listK M n la) (fun a a' ha => (listK_kept ha).1) (fun z w' hz hf => ends_error hz hf) (fun yy hyc hon hkp => ?_) hw1
    refine ownResults_any 159 n yy.1 w1 hon.1 (by rw [hkp.fR, hR]) _ ?_
    exact (list_K hM 159 n (Or.inl rfl) yy w1 hon (by have := G0 yy hyc; omega) la (by
      have e : yy.1.getL 159 = y.1.args := by unfold WS.getL; rw [if_pos rfl]; exact hkp.args
      rw [e]; exact ha.fr hfw) hll (by omega)).mono (fun e w' he => ends_plain he)
  · exact fun w1 hw1 => stage_end hw1
def callK {b : Nat} (M : Mode b) (heads : List (Nat × Nat)) (la lr : List Int) (c : X (WS × M.σ)) : X (WS × M.σ) :=
  thenX (thenX c (calleePart M heads.length)) fun y =>
    thenX (listK M ((heads.getD y.1.n.toNat (0, 0)).1) la y) fun y2 => listK M ((heads.getD y.1.n.toNat (0, 0)).2) lr y2
def MidK {b : Nat} (M : Mode b) (w : World) (heads : List (Nat × Nat)) (la : List Int) (s0 : WS) (c : X (WS × M.σ)) (w1 : World) : Prop :=
  ∃ y y2, thenX c (calleePart M heads.length) = .ok y ∧ listK M ((heads.getD y.1.n.toNat (0, 0)).1) la y = .ok y2 ∧ Fr M.SB w w1 ∧ On M w1 y2 ∧ Kept s0 y2.1 ∧ y2.1.n = y.1.n ∧ 0 ≤ y.1.n ∧ y.1.n < heads.length
theorem instr_11K {b : Nat} {M : Mode b} {rm : M.σ → Nat} (hM : KM M rm) (x y : WS × M.σ) (w : World) (h : On M w x) (hp : 20 ≤ rm x.2) (i : Nat) (hi : i ≤ 4096) (hx : nextX M 154 1 x = .ok y) (hk : y.1.op = 11) (hl0 : 0 ≤ y.1.len) (hl1 : y.1.len ≤ 4096) (nb : Bool)
    (hnames : ∀ w1, Lies w1 b y.1 → Calls Tryd.prog 93 #[.pointer (some ⟨b, 90, none⟩), .pointer (some ⟨b, 154, none⟩)] w1 fun e w' => e = .returned (.bool nb) ∧ w' = w1)
    (la lr : List Int) (ha : IS M.SB w y.1.args la) (hr : IS M.SB w y.1.rets lr) (hal : la.length ≤ 1000000000000000) (hrl : lr.length ≤ 1000000000000000) (heads : List (Nat × Nat)) (fb fo fc : Nat) (hfu : y.1.funcs = .slice (some ⟨fb, fo, none⟩) heads.length fc) (hH : HeadsAt w fb fo heads) (hSB : ¬ M.SB fb) (hflt : fb < w.heap.size) (hnf : heads.length ≤ 65535) :
    Calls Tryd.prog 65 #[.pointer (some ⟨b, 0, none⟩), .int .i64 i] w (Ends M w (callK M heads la lr (frontOk M false false nb i x.1.at' y))) := by
  have hPR : ∀ j (h : j < heads.length), heads[j].1 ≤ 8 ∧ heads[j].2 ≤ 4 := fun j h => (hH j h).2.2
  have G0 := front_goes hM.goes hx false false nb i x.1.at'
  have G1 := G0.then (calleePart M heads.length) (fun a a' ha => ask_goes hM.goes ha)
  generalize hC : frontOk M false false nb i x.1.at' y = C at G0 G1
  refine askInstr_11at M rm hM.next x y w h (by omega) i hi hx hk hl0 hl1 nb hnames _ (fun j w1 => match j with | 0 => Stage M w y.1 C w1 | 1 => Stage M w y.1 (thenX C (calleePart M heads.length)) w1 | 2 => MidK M w heads la y.1 C w1 | 3 => Stage M w y.1 (callK M heads la lr C) w1 | _ => False)
    (fun z w1 hz hf => ends_error (by rw [← hC, hz]; rfl) hf) ?_ ?_ ?_ ?_ ?_ ?_ ?_
  · exact fun y' w1 hy hf hon => ⟨y', hC ▸ hy, hf, hon, frontOk_kept hy⟩
  · intro j w1 hj
    match j, hj with
    | 0, hj => exact Stage.lies hj
    | 1, hj => exact Stage.lies hj
    | 2, hj => obtain ⟨_, _, _, _, _, hon, _⟩ := hj; exact ⟨_, hon.1⟩
    | 3, hj => exact Stage.lies hj
  · intro j w1 hj
    match j, hj with
    | 0, hj => exact Stage.drew hj
    | 1, hj => exact Stage.drew hj
    | 2, hj => obtain ⟨y1, y2, e1, e2, hf, hon, hkk⟩ := hj; exact ⟨y1, y2, e1, e2, hf.drew, hon.drew, hkk⟩
    | 3, hj => exact Stage.drew hj
  · exact fun w1 hw1 => stage_stepR (p := calleePart M heads.length) (fun a a' ha => askX_kept (by simp) ha) (fun z w' hz hf => ends_error (by unfold callK; rw [hz]; rfl) hf)
      (fun yy hyc hon hkp => callee_at M rm hM.next yy w1 hon (by have := G0 yy hyc; omega) 11 2 (by rw [hkp.op, hk]; rfl) (by omega) rfl (by omega) (by omega) _ heads.length fc (by rw [hkp.funcs, hfu])) hw1
  · rintro w1 ⟨y', hy', hf1, hon, hkp⟩
    have hN0 := callee_in hnf hy'
    obtain ⟨N, hNe⟩ := Int.eq_ofNat_of_zero_le hN0.1
    have hNlt : N < heads.length := by omega
    have hH1 := hH.fr hf1 hflt hSB N hNlt
    have hgd : heads.getD y'.1.n.toNat (0, 0) = heads[N] := by
      rw [hNe]; simp [List.getD, hNlt]
    refine calleeParams_any 159 (heads[N].1) N fb fo heads.length fc y'.1 w1 hon.1 hNe hNlt (by rw [hkp.funcs, hfu]) hH1.1 _ ?_
    refine (list_K hM 159 (heads[N].1) (Or.inl rfl) y' w1.drew hon.drew (by have := G1 y' hy'; have := hPR N hNlt; omega) la (by
      have e : y'.1.getL 159 = y.1.args := by unfold WS.getL; rw [if_pos rfl]; exact hkp.args
      rw [e]; exact ha.fr hf1.drew) hal (by have := hH1.2.2.1; omega)).mono ?_
    rintro e w2 ⟨hf2, hres⟩
    have hf12 : Fr M.SB w w2 := hf1.drew.trans hf2
    cases hl : listK M (heads[N].1) la y' with
    | error z =>
      rw [hl] at hres
      have hres : e = .panicked (viol z.1 z.2) := hres
      subst hres
      exact ⟨Or.inr ⟨_, rfl⟩, Or.inr ⟨_, rfl, ends_error (by unfold callK; rw [hy']; simp only [thenX, hgd, hl]) hf12⟩⟩
    | ok y2 =>
      rw [hl] at hres
      obtain ⟨rfl, hon2⟩ := hres
      have hk2 := listK_kept hl
      exact ⟨Or.inl rfl, Or.inl ⟨rfl, y', y2, hy', by rw [hgd]; exact hl, hf12, hon2, hkp.trans hk2.1, hk2.2, hN0⟩⟩
  · rintro w1 ⟨y', y2, hy', hl, hf1, hon, hkp, hn2, hN0⟩
    obtain ⟨N, hNe⟩ := Int.eq_ofNat_of_zero_le hN0.1
    have hNlt : N < heads.length := by omega
    have hH1 := hH.fr hf1 hflt hSB N hNlt
    have hgd : heads.getD y'.1.n.toNat (0, 0) = heads[N] := by
      rw [hNe]; simp [List.getD, hNlt]
    refine calleeResults_any 160 (heads[N].2) N fb fo heads.length fc y2.1 w1 hon.1 (hn2.trans hNe) hNlt (hkp.funcs.trans hfu) hH1.2.1 _ ?_
    refine (list_K hM 160 (heads[N].2) (Or.inr rfl) y2 w1.drew hon.drew (by have h1 := G1 y' hy'; have h2 := hPR N hNlt; have h3 := listK_goes hM.goes hl; rw [hgd] at h3; omega) lr (by
      have e : y2.1.getL 160 = y.1.rets := by unfold WS.getL; rw [if_neg (by omega)]; exact hkp.rets
      rw [e]; exact hr.fr hf1.drew) hrl (by have := hH1.2.2.2; omega)).mono ?_
    rintro e w2 ⟨hf2, hres⟩
    have hf12 : Fr M.SB w w2 := hf1.drew.trans hf2
    cases hl2 : listK M (heads[N].2) lr y2 with
    | error z =>
      rw [hl2] at hres
      have hres : e = .panicked (viol z.1 z.2) := hres
      subst hres
      exact ⟨Or.inr ⟨_, rfl⟩, Or.inr ⟨_, rfl, ends_error (by unfold callK; rw [hy']; simp only [thenX, hl]; rw [hgd]; exact hl2) hf12⟩⟩
    | ok y3 =>
      rw [hl2] at hres
      obtain ⟨rfl, hon3⟩ := hres
      exact ⟨Or.inl rfl, Or.inl ⟨rfl, y3, by unfold callK; rw [hy']; simp only [thenX, hl]; rw [hgd]; exact hl2, hf12, hon3, hkp.trans (listK_kept hl2).1⟩⟩
  · exact fun w1 hw1 => stage_end hw1
def instrK {b : Nat} (M : Mode b) (heads : List (Nat × Nat)) (fR i : Nat) (la lr : List Int) (x : WS × M.σ) : X (WS × M.σ) :=
  thenX (nextX M 154 1 x) fun y =>
    if 1 ≤ x.1.op ∧ x.1.op ≤ 17 then
      (if x.1.op = 15 then retK M fR la (frontOk M true false (nbK 15 x.1 la.length lr.length) i x.1.at' y)
       else if x.1.op = 11 then callK M heads la lr (frontOk M false false (nbK 11 x.1 la.length lr.length) i x.1.at' y)
       else partsX M x.1.op.toNat (frontOk M (x.1.op == 13) (x.1.op == 6) (nbK x.1.op.toNat x.1 la.length lr.length) i x.1.at' y))
    else .error (12, x.1.at')
theorem instr_K {b : Nat} {M : Mode b} {rm : M.σ → Nat} (hM : KM M rm) (s : WS) (st : M.σ) (w : World) (h : On M w (s, st)) (hp : 20 ≤ rm st) (i : Nat) (hi : i ≤ 4096) (hl0 : 0 ≤ s.len) (hl1 : s.len ≤ 4096)
    (fR : Nat) (hR : s.fR = fR) (hRn : fR ≤ 4) (la lr : List Int) (ha : IS M.SB w s.args la) (hr : IS M.SB w s.rets lr) (hal : la.length ≤ 1000000000000000) (hrl : lr.length ≤ 1000000000000000)
    (heads : List (Nat × Nat)) (fb fo fc : Nat) (hfu : s.funcs = .slice (some ⟨fb, fo, none⟩) heads.length fc) (hH : HeadsAt w fb fo heads) (hSB : ¬ M.SB fb) (hflt : fb < w.heap.size) (hnf : heads.length ≤ 65535) :
    Calls Tryd.prog 65 #[.pointer (some ⟨b, 0, none⟩), .int .i64 i] w (Ends M w (instrK M heads fR i la lr (s, st))) := by
  obtain ⟨st', hx, -⟩ := K_next hM 154 1 s st (by omega)
  have hX0 : instrK M heads fR i la lr (s, st) = if 1 ≤ s.op ∧ s.op ≤ 17 then
      (if s.op = 15 then retK M fR la (frontOk M true false (nbK 15 s la.length lr.length) i s.at' ({ s with at' := adv s.at' 1 }, st'))
       else if s.op = 11 then callK M heads la lr (frontOk M false false (nbK 11 s la.length lr.length) i s.at' ({ s with at' := adv s.at' 1 }, st'))
       else partsX M s.op.toNat (frontOk M (s.op == 13) (s.op == 6) (nbK s.op.toNat s la.length lr.length) i s.at' ({ s with at' := adv s.at' 1 }, st')))
    else .error (12, s.at') := by unfold instrK; rw [hx]; rfl
  by_cases hop : 1 ≤ s.op ∧ s.op ≤ 17
  rotate_left
  · refine (askInstr_noOpAt M rm hM.next (s, st) _ w h (by show 1 ≤ rm st; omega) i hx hop).mono ?_
    rintro e w' ⟨rfl, hf⟩
    exact ends_error (z := (12, s.at')) (by rw [hX0, if_neg hop]) hf
  rw [hX0, if_pos hop]
  have ha2 := ha
  have hr2 := hr
  obtain ⟨aa, ca, ha0, -⟩ := ha2
  obtain ⟨ra, cr, hr0, -⟩ := hr2
  obtain ⟨k, hk⟩ := Int.eq_ofNat_of_zero_le (show 0 ≤ s.op by omega)
  have hk17 : k = 1 ∨ k = 2 ∨ k = 3 ∨ k = 4 ∨ k = 5 ∨ k = 6 ∨ k = 7 ∨ k = 8 ∨ k = 9 ∨ k = 10 ∨ k = 11 ∨ k = 12 ∨ k = 13 ∨ k = 14 ∨ k = 15 ∨ k = 16 ∨ k = 17 := by omega
  clear hX0 hop
  rcases hk17 with rfl | rfl | rfl | rfl | rfl | rfl | rfl | rfl | rfl | rfl | rfl | rfl | rfl | rfl | rfl | rfl | rfl
  · have eK : ∀ (Y : WS × M.σ), partsX M s.op.toNat (frontOk M (s.op == 13) (s.op == 6) (nbK s.op.toNat s la.length lr.length) i s.at' Y) = partsX M 1 (frontOk M false false (nbK 1 s la.length lr.length) i s.at' Y) := fun Y => by rw [hk]; rfl
    rw [if_neg (by rw [hk]; decide), if_neg (by rw [hk]; decide), eK]
    exact instr_1at M rm hM.next hM.goes (s, st) ({ s with at' := adv s.at' 1 }, st') w h (by show 4 ≤ rm st; omega) i hi hx hk hl0 hl1 (nbK 1 s la.length lr.length) (fun w1 hl => namesAll_g1 { s with at' := adv s.at' 1 } w1 hl aa ra la.length ca lr.length cr ha0 hr0)
  · have eK : ∀ (Y : WS × M.σ), partsX M s.op.toNat (frontOk M (s.op == 13) (s.op == 6) (nbK s.op.toNat s la.length lr.length) i s.at' Y) = partsX M 2 (frontOk M false false (nbK 2 s la.length lr.length) i s.at' Y) := fun Y => by rw [hk]; rfl
    rw [if_neg (by rw [hk]; decide), if_neg (by rw [hk]; decide), eK]
    exact instr_2at M rm hM.next hM.goes (s, st) ({ s with at' := adv s.at' 1 }, st') w h (by show 4 ≤ rm st; omega) i hi hx hk hl0 hl1 (nbK 2 s la.length lr.length) (fun w1 hl => namesAll_g2 { s with at' := adv s.at' 1 } w1 hl aa ra la.length ca lr.length cr ha0 hr0)
  · have eK : ∀ (Y : WS × M.σ), partsX M s.op.toNat (frontOk M (s.op == 13) (s.op == 6) (nbK s.op.toNat s la.length lr.length) i s.at' Y) = partsX M 3 (frontOk M false false (nbK 3 s la.length lr.length) i s.at' Y) := fun Y => by rw [hk]; rfl
    rw [if_neg (by rw [hk]; decide), if_neg (by rw [hk]; decide), eK]
    exact instr_3at M rm hM.next hM.goes (s, st) ({ s with at' := adv s.at' 1 }, st') w h (by show 4 ≤ rm st; omega) i hi hx hk hl0 hl1 (nbK 3 s la.length lr.length) (fun w1 hl => namesAll_g3 { s with at' := adv s.at' 1 } w1 hl aa ra la.length ca lr.length cr ha0 hr0)
  · have eK : ∀ (Y : WS × M.σ), partsX M s.op.toNat (frontOk M (s.op == 13) (s.op == 6) (nbK s.op.toNat s la.length lr.length) i s.at' Y) = partsX M 4 (frontOk M false false (nbK 4 s la.length lr.length) i s.at' Y) := fun Y => by rw [hk]; rfl
    rw [if_neg (by rw [hk]; decide), if_neg (by rw [hk]; decide), eK]
    exact instr_4at M rm hM.next hM.goes (s, st) ({ s with at' := adv s.at' 1 }, st') w h (by show 4 ≤ rm st; omega) i hi hx hk hl0 hl1 (nbK 4 s la.length lr.length) (fun w1 hl => namesAll_g4 { s with at' := adv s.at' 1 } w1 hl aa ra la.length ca lr.length cr ha0 hr0)
  · have eK : ∀ (Y : WS × M.σ), partsX M s.op.toNat (frontOk M (s.op == 13) (s.op == 6) (nbK s.op.toNat s la.length lr.length) i s.at' Y) = partsX M 5 (frontOk M false false (nbK 5 s la.length lr.length) i s.at' Y) := fun Y => by rw [hk]; rfl
    rw [if_neg (by rw [hk]; decide), if_neg (by rw [hk]; decide), eK]
    exact instr_5at M rm hM.next hM.goes (s, st) ({ s with at' := adv s.at' 1 }, st') w h (by show 4 ≤ rm st; omega) i hi hx hk hl0 hl1 (nbK 5 s la.length lr.length) (fun w1 hl => namesAll_g5 { s with at' := adv s.at' 1 } w1 hl aa ra la.length ca lr.length cr ha0 hr0)
  · have eK : ∀ (Y : WS × M.σ), partsX M s.op.toNat (frontOk M (s.op == 13) (s.op == 6) (nbK s.op.toNat s la.length lr.length) i s.at' Y) = partsX M 6 (frontOk M false true (nbK 6 s la.length lr.length) i s.at' Y) := fun Y => by rw [hk]; rfl
    rw [if_neg (by rw [hk]; decide), if_neg (by rw [hk]; decide), eK]
    exact instr_6at M rm hM.next hM.goes (s, st) ({ s with at' := adv s.at' 1 }, st') w h (by show 4 ≤ rm st; omega) i hi hx hk hl0 hl1 (nbK 6 s la.length lr.length) (fun w1 hl => namesAll_g6 { s with at' := adv s.at' 1 } w1 hl aa ra la.length ca lr.length cr ha0 hr0)
  · have eK : ∀ (Y : WS × M.σ), partsX M s.op.toNat (frontOk M (s.op == 13) (s.op == 6) (nbK s.op.toNat s la.length lr.length) i s.at' Y) = partsX M 7 (frontOk M false false (nbK 7 s la.length lr.length) i s.at' Y) := fun Y => by rw [hk]; rfl
    rw [if_neg (by rw [hk]; decide), if_neg (by rw [hk]; decide), eK]
    exact instr_7at M rm hM.next hM.goes (s, st) ({ s with at' := adv s.at' 1 }, st') w h (by show 4 ≤ rm st; omega) i hi hx hk hl0 hl1 (nbK 7 s la.length lr.length) (fun w1 hl => namesAll_g7 { s with at' := adv s.at' 1 } w1 hl aa ra la.length ca lr.length cr ha0 hr0)
  · have eK : ∀ (Y : WS × M.σ), partsX M s.op.toNat (frontOk M (s.op == 13) (s.op == 6) (nbK s.op.toNat s la.length lr.length) i s.at' Y) = partsX M 8 (frontOk M false false (nbK 8 s la.length lr.length) i s.at' Y) := fun Y => by rw [hk]; rfl
    rw [if_neg (by rw [hk]; decide), if_neg (by rw [hk]; decide), eK]
    exact instr_8at M rm hM.next hM.goes (s, st) ({ s with at' := adv s.at' 1 }, st') w h (by show 4 ≤ rm st; omega) i hi hx hk hl0 hl1 (nbK 8 s la.length lr.length) (fun w1 hl => namesAll_g8 { s with at' := adv s.at' 1 } w1 hl aa ra la.length ca lr.length cr ha0 hr0)
  · have eK : ∀ (Y : WS × M.σ), partsX M s.op.toNat (frontOk M (s.op == 13) (s.op == 6) (nbK s.op.toNat s la.length lr.length) i s.at' Y) = partsX M 9 (frontOk M false false (nbK 9 s la.length lr.length) i s.at' Y) := fun Y => by rw [hk]; rfl
    rw [if_neg (by rw [hk]; decide), if_neg (by rw [hk]; decide), eK]
    exact instr_9at M rm hM.next hM.goes (s, st) ({ s with at' := adv s.at' 1 }, st') w h (by show 4 ≤ rm st; omega) i hi hx hk hl0 hl1 (nbK 9 s la.length lr.length) (fun w1 hl => namesAll_g9 { s with at' := adv s.at' 1 } w1 hl aa ra la.length ca lr.length cr ha0 hr0)
  · have eK : ∀ (Y : WS × M.σ), partsX M s.op.toNat (frontOk M (s.op == 13) (s.op == 6) (nbK s.op.toNat s la.length lr.length) i s.at' Y) = partsX M 10 (frontOk M false false (nbK 10 s la.length lr.length) i s.at' Y) := fun Y => by rw [hk]; rfl
    rw [if_neg (by rw [hk]; decide), if_neg (by rw [hk]; decide), eK]
    exact instr_10at M rm hM.next hM.goes (s, st) ({ s with at' := adv s.at' 1 }, st') w h (by show 4 ≤ rm st; omega) i hi hx hk hl0 hl1 (nbK 10 s la.length lr.length) (fun w1 hl => namesAll_g10 { s with at' := adv s.at' 1 } w1 hl aa ra la.length ca lr.length cr ha0 hr0)
  · rw [if_neg (by rw [hk]; decide), if_pos (by rw [hk]; rfl)]
    exact instr_11K hM (s, st) ({ s with at' := adv s.at' 1 }, st') w h hp i hi hx hk hl0 hl1 (nbK 11 s la.length lr.length) (fun w1 hl => namesAll_g11 { s with at' := adv s.at' 1 } w1 hl aa ra la.length ca lr.length cr ha0 hr0) la lr ha hr hal hrl heads fb fo fc hfu hH hSB hflt hnf
  · have eK : ∀ (Y : WS × M.σ), partsX M s.op.toNat (frontOk M (s.op == 13) (s.op == 6) (nbK s.op.toNat s la.length lr.length) i s.at' Y) = partsX M 12 (frontOk M false false (nbK 12 s la.length lr.length) i s.at' Y) := fun Y => by rw [hk]; rfl
    rw [if_neg (by rw [hk]; decide), if_neg (by rw [hk]; decide), eK]
    exact instr_12at M rm hM.next hM.goes (s, st) ({ s with at' := adv s.at' 1 }, st') w h (by show 4 ≤ rm st; omega) i hi hx hk hl0 hl1 (nbK 12 s la.length lr.length) (fun w1 hl => namesAll_g12 { s with at' := adv s.at' 1 } w1 hl aa ra la.length ca lr.length cr ha0 hr0)
  · have eK : ∀ (Y : WS × M.σ), partsX M s.op.toNat (frontOk M (s.op == 13) (s.op == 6) (nbK s.op.toNat s la.length lr.length) i s.at' Y) = partsX M 13 (frontOk M true false (nbK 13 s la.length lr.length) i s.at' Y) := fun Y => by rw [hk]; rfl
    rw [if_neg (by rw [hk]; decide), if_neg (by rw [hk]; decide), eK]
    exact instr_13at M rm hM.next hM.goes (s, st) ({ s with at' := adv s.at' 1 }, st') w h (by show 4 ≤ rm st; omega) i hi hx hk hl0 hl1 (nbK 13 s la.length lr.length) (fun w1 hl => namesAll_g13 { s with at' := adv s.at' 1 } w1 hl aa ra la.length ca lr.length cr ha0 hr0)
  · have eK : ∀ (Y : WS × M.σ), partsX M s.op.toNat (frontOk M (s.op == 13) (s.op == 6) (nbK s.op.toNat s la.length lr.length) i s.at' Y) = partsX M 14 (frontOk M false false (nbK 14 s la.length lr.length) i s.at' Y) := fun Y => by rw [hk]; rfl
    rw [if_neg (by rw [hk]; decide), if_neg (by rw [hk]; decide), eK]
    exact instr_14at M rm hM.next hM.goes (s, st) ({ s with at' := adv s.at' 1 }, st') w h (by show 4 ≤ rm st; omega) i hi hx hk hl0 hl1 (nbK 14 s la.length lr.length) (fun w1 hl => namesAll_g14 { s with at' := adv s.at' 1 } w1 hl aa ra la.length ca lr.length cr ha0 hr0)
  · rw [if_pos (by rw [hk]; rfl)]
    exact instr_15K hM (s, st) ({ s with at' := adv s.at' 1 }, st') w h hp i hi hx hk hl0 hl1 (nbK 15 s la.length lr.length) (fun w1 hl => namesAll_g15 { s with at' := adv s.at' 1 } w1 hl aa ra la.length ca lr.length cr ha0 hr0) la ha hal fR hR hRn
  · have eK : ∀ (Y : WS × M.σ), partsX M s.op.toNat (frontOk M (s.op == 13) (s.op == 6) (nbK s.op.toNat s la.length lr.length) i s.at' Y) = partsX M 16 (frontOk M false false (nbK 16 s la.length lr.length) i s.at' Y) := fun Y => by rw [hk]; rfl
    rw [if_neg (by rw [hk]; decide), if_neg (by rw [hk]; decide), eK]
    exact instr_16at M rm hM.next hM.goes (s, st) ({ s with at' := adv s.at' 1 }, st') w h (by show 4 ≤ rm st; omega) i hi hx hk hl0 hl1 (nbK 16 s la.length lr.length) (fun w1 hl => namesAll_g16 { s with at' := adv s.at' 1 } w1 hl aa ra la.length ca lr.length cr ha0 hr0)
  · have eK : ∀ (Y : WS × M.σ), partsX M s.op.toNat (frontOk M (s.op == 13) (s.op == 6) (nbK s.op.toNat s la.length lr.length) i s.at' Y) = partsX M 17 (frontOk M false false (nbK 17 s la.length lr.length) i s.at' Y) := fun Y => by rw [hk]; rfl
    rw [if_neg (by rw [hk]; decide), if_neg (by rw [hk]; decide), eK]
    exact instr_17at M rm hM.next hM.goes (s, st) ({ s with at' := adv s.at' 1 }, st') w h (by show 4 ≤ rm st; omega) i hi hx hk hl0 hl1 (nbK 17 s la.length lr.length) (fun w1 hl => namesAll_g17 { s with at' := adv s.at' 1 } w1 hl aa ra la.length ca lr.length cr ha0 hr0)
theorem parts_goes {b : Nat} {M : Mode b} {rm : M.σ → Nat} (hR : RoomGoes M rm) {n j : Nat} (op : Nat) {c : X (WS × M.σ)} (h : Goes M rm n j c) : Goes M rm n (j + 3) (partsX M op c) := by
  have up : ∀ {j' : Nat} {c' : X (WS × M.σ)}, j' ≤ j + 3 → Goes M rm n j' c' → Goes M rm n (j + 3) c' := fun hj hc y hy => by have := hc y hy; omega
  have hv : ∀ o {j' : Nat} {c' : X (WS × M.σ)}, Goes M rm n j' c' → Goes M rm n (j' + 1) (thenX c' (varPart M o)) := fun o _ _ hc => hc.then _ (fun a a' ha => ask_goes hR ha)
  have hn : ∀ {j' : Nat} {c' : X (WS × M.σ)}, Goes M rm n j' c' → Goes M rm n (j' + 1) (thenX c' (intPart M)) := fun hc => hc.then _ (fun a a' ha => hR _ _ _ _ ha)
  have hf : ∀ {j' : Nat} {c' : X (WS × M.σ)}, Goes M rm n j' c' → Goes M rm n (j' + 1) (thenX c' (fieldsPart M)) := fun hc => hc.then _ (fun a a' ha => ask_goes hR ha)
  have hd : ∀ {j' : Nat} {c' : X (WS × M.σ)}, Goes M rm n j' c' → Goes M rm n (j' + 1) (thenX c' (fieldPart M)) := fun hc => hc.then _ (fun a a' ha => ask_goes hR ha)
  have hg : ∀ {j' : Nat} {c' : X (WS × M.σ)}, Goes M rm n j' c' → Goes M rm n (j' + 1) (thenX c' (globalPart M)) := fun hc => hc.then _ (fun a a' ha => ask_goes hR ha)
  have ht : ∀ {j' : Nat} {c' : X (WS × M.σ)}, Goes M rm n j' c' → Goes M rm n (j' + 1) (thenX c' (targetPart M)) := fun hc => hc.then _ (fun a a' ha => ask_goes hR ha)
  match op with
  | 1 => exact up (by omega) (hn (hv 155 h))
  | 2 => exact up (by omega) (hv 156 (hv 155 h))
  | 3 => exact up (by omega) (hv 157 (hv 156 (hv 155 h)))
  | 4 => exact up (by omega) (hv 157 (hv 156 (hv 155 h)))
  | 5 => exact up (by omega) (hv 156 (hv 155 h))
  | 6 => exact up (by omega) (hf (hv 155 h))
  | 7 => exact up (by omega) (hd (hv 156 (hv 155 h)))
  | 8 => exact up (by omega) (hd (hv 156 (hv 155 h)))
  | 9 => exact up (by omega) (hg (hv 155 h))
  | 10 => exact up (by omega) (hg (hv 156 h))
  | 12 => exact up (by omega) (hv 156 h)
  | 13 => exact up (by omega) (ht h)
  | 14 => exact up (by omega) (ht (hv 156 h))
  | 16 => exact up (by omega) (hv 155 h)
  | 17 => exact up (by omega) (hv 157 (hv 156 (hv 155 h)))
  | 0 => exact up (by omega) h
  | 11 => exact up (by omega) h
  | 15 => exact up (by omega) h
  | m + 18 => exact up (by omega) h
theorem instrK_goes {b : Nat} {M : Mode b} {rm : M.σ → Nat} (hR : RoomGoes M rm) {heads : List (Nat × Nat)} (hPR : ∀ j (h : j < heads.length), heads[j].1 ≤ 8 ∧ heads[j].2 ≤ 4) {fR i : Nat} (hf : fR ≤ 4) {la lr : List Int} {x y : WS × M.σ} (h : instrK M heads fR i la lr x = .ok y) : rm x.2 ≤ rm y.2 + 20 := by
  have hgd : ∀ k : Nat, (heads.getD k (0, 0)).1 ≤ 8 ∧ (heads.getD k (0, 0)).2 ≤ 4 := fun k => by
    by_cases hk : k < heads.length
    · have e : heads.getD k (0, 0) = heads[k] := by simp [List.getD, hk]
      rw [e]; exact hPR k hk
    · have e : heads.getD k (0, 0) = (0, 0) := by simp [List.getD, Nat.le_of_not_lt hk]
      rw [e]; exact ⟨Nat.zero_le _, Nat.zero_le _⟩
  unfold instrK at h
  cases hx : nextX M 154 1 x with
  | error z => rw [hx] at h; cases h
  | ok x1 =>
    rw [hx] at h
    simp only [thenX] at h
    split at h
    · split at h
      · have G := front_goes hR hx true false (nbK 15 x.1 la.length lr.length) i x.1.at'
        unfold retK at h
        cases hc : frontOk M true false (nbK 15 x.1 la.length lr.length) i x.1.at' x1 with
        | error z => rw [hc] at h; cases h
        | ok x2 =>
          rw [hc] at h
          have h1 := G x2 hc
          have h2 := listK_goes hR (x := x2) (y := y) h
          omega
      · split at h
        · have G := (front_goes hR hx false false (nbK 11 x.1 la.length lr.length) i x.1.at').then (calleePart M heads.length) (fun a a' ha => ask_goes hR ha)
          unfold callK at h
          cases hc : thenX (frontOk M false false (nbK 11 x.1 la.length lr.length) i x.1.at' x1) (calleePart M heads.length) with
          | error z => rw [hc] at h; cases h
          | ok x2 =>
            rw [hc] at h
            have h1 := G x2 hc
            simp only [thenX] at h
            cases hl : listK M ((heads.getD x2.1.n.toNat (0, 0)).1) la x2 with
            | error z => rw [hl] at h; cases h
            | ok x3 =>
              rw [hl] at h
              have h2 := listK_goes hR hl
              have h3 := listK_goes hR (x := x3) (y := y) h
              have h4 := hgd x2.1.n.toNat
              omega
        · have G := parts_goes hR x.1.op.toNat (front_goes hR hx (x.1.op == 13) (x.1.op == 6) (nbK x.1.op.toNat x.1 la.length lr.length) i x.1.at')
          have h1 := G y h
          omega
    · cases h
end Go.Proofs.YtingenonbkencaaDoor
